/- Proves words for a table of names in memory: its parts lie in blocks of their own kinds, and what becomes of it when a part changes. Conditions: as each theorem names them. -/
import Derived.Test.YtmhbfplpodikiaaInb
import Derived.Test.YtmhbfplpodikiaaNw
namespace Go.Proofs.Ytmhbfplpodikiaa.Inc
open Go.RowKit Ap Mi Nw Aa Ai Hm Ina Inb

def zs (l : List Int) : List Value := l.map (.int .i64)
def ns (l : List Nat) : List Value := l.map fun n : Nat => .int .i64 (n : Int)
theorem zs_len (l : List Int) : (zs l).length = l.length := by simp [zs]
theorem ns_len (l : List Nat) : (ns l).length = l.length := by simp [ns]
theorem zs_get {l : List Int} {k : Nat} (h : k < l.length) : (zs l)[k]? = some (.int .i64 (l.getD k 0)) := by
  unfold zs; rw [List.getElem?_map, List.getD_eq_getElem?_getD, List.getElem?_eq_getElem h]; rfl
theorem zs_set (l : List Int) (k : Nat) (v : Int) : zs (l.set k v) = (zs l).set k (.int .i64 v) := by unfold zs; rw [List.map_set]
theorem zs_one (l : List Int) : ∀ u ∈ zs l, u.oneCell' = true := by
  intro u hu; unfold zs at hu; obtain ⟨x, _, rfl⟩ := List.mem_map.1 hu; rfl
theorem ns_one (l : List Nat) : ∀ u ∈ ns l, u.oneCell' = true := by
  intro u hu; unfold ns at hu; obtain ⟨x, _, rfl⟩ := List.mem_map.1 hu; rfl
theorem ns_get {l : List Nat} {k : Nat} (h : k < l.length) : (ns l)[k]? = some (.int .i64 (l[k] : Int)) := by
  unfold ns; rw [List.getElem?_map, List.getElem?_eq_getElem h]; rfl
/-- The cells of the slots. -/
def slC : List Nr → List Int → List Value
  | x :: l, y :: m => .string x.k :: .int .i64 x.r :: .int .i64 y :: slC l m
  | _, _ => []
theorem slC_len : ∀ {l : List Nr} {m : List Int}, m.length = l.length → (slC l m).length = l.length * 3
  | [], [], _ => rfl
  | x :: l, y :: m, h => by
    have := slC_len (l := l) (m := m) (by simpa using h)
    show (slC l m).length + 1 + 1 + 1 = (l.length + 1) * 3
    omega
theorem slC_one : ∀ (l : List Nr) (m : List Int), ∀ u ∈ slC l m, u.oneCell' = true
  | [], m, u, h => by cases m <;> simp [slC] at h
  | x :: l, [], u, h => by simp [slC] at h
  | x :: l, y :: m, u, h => by
    simp only [slC, List.mem_cons] at h
    rcases h with rfl | rfl | rfl | h
    · rfl
    · rfl
    · rfl
    · exact slC_one l m u h
theorem slC_get : ∀ {l : List Nr} {m : List Int}, m.length = l.length → ∀ k (hk : k < l.length), (slC l m)[k * 3]? = some (.string l[k].k) ∧ (slC l m)[k * 3 + 1]? = some (.int .i64 l[k].r) ∧ (slC l m)[k * 3 + 2]? = some (.int .i64 (m.getD k 0))
  | [], _, _, k, hk => by simp at hk
  | x :: l, [], h, _, _ => by simp at h
  | x :: l, y :: m, h, 0, _ => ⟨rfl, rfl, rfl⟩
  | x :: l, y :: m, h, k + 1, hk => by
    have := slC_get (l := l) (m := m) (by simpa using h) k (by simpa using hk)
    rw [show (k + 1) * 3 = k * 3 + 1 + 1 + 1 by omega]
    simpa [slC] using this
theorem slC_nx : ∀ {l : List Nr} {m : List Int}, m.length = l.length → ∀ k, k < l.length → ∀ v, (slC l m).set (k * 3 + 2) (.int .i64 v) = slC l (m.set k v)
  | [], _, _, k, hk, _ => by simp at hk
  | x :: l, [], h, _, _, _ => by simp at h
  | x :: l, y :: m, h, 0, _, v => rfl
  | x :: l, y :: m, h, k + 1, hk, v => by
    have := slC_nx (l := l) (m := m) (by simpa using h) k (by simpa using hk) v
    rw [show (k + 1) * 3 + 2 = k * 3 + 2 + 1 + 1 + 1 by omega]
    simp only [slC, List.set_cons_succ]
    rw [this]
theorem slC_rf : ∀ {l : List Nr} {m : List Int}, m.length = l.length → ∀ k (hk : k < l.length), ∀ r, (slC l m).set (k * 3 + 1) (.int .i64 r) = slC (l.set k { l[k] with r := r }) m
  | [], _, _, k, hk, _ => by simp at hk
  | x :: l, [], h, _, _, _ => by simp at h
  | x :: l, y :: m, h, 0, _, v => rfl
  | x :: l, y :: m, h, k + 1, hk, v => by
    have := slC_rf (l := l) (m := m) (by simpa using h) k (by simpa using hk) v
    rw [show (k + 1) * 3 + 1 = k * 3 + 1 + 1 + 1 + 1 by omega]
    simp only [slC, List.set_cons_succ, List.getElem_cons_succ]
    rw [this]
theorem slC_all : ∀ {l : List Nr} {m : List Int}, m.length = l.length → ∀ k, k < l.length → ∀ x v, (((slC l m).set (k * 3) (.string x.k)).set (k * 3 + 1) (.int .i64 x.r)).set (k * 3 + 2) (.int .i64 v) = slC (l.set k x) (m.set k v)
  | [], _, _, k, hk, _, _ => by simp at hk
  | x :: l, [], h, _, _, _, _ => by simp at h
  | x :: l, y :: m, h, 0, _, _, v => rfl
  | x :: l, y :: m, h, k + 1, hk, z, v => by
    have := slC_all (l := l) (m := m) (by simpa using h) k (by simpa using hk) z v
    rw [show (k + 1) * 3 + 1 = k * 3 + 1 + 1 + 1 + 1 by omega, show (k + 1) * 3 + 2 = k * 3 + 2 + 1 + 1 + 1 by omega, show (k + 1) * 3 = k * 3 + 1 + 1 + 1 by omega]
    simp only [slC, List.set_cons_succ]
    rw [this]
theorem slC_snoc : ∀ {l : List Nr} {m : List Int}, m.length = l.length → ∀ x v, slC (l ++ [x]) (m ++ [v]) = slC l m ++ [.string x.k, .int .i64 x.r, .int .i64 v]
  | [], [], _, x, v => rfl
  | y :: l, [], h, _, _ => by simp at h
  | [], y :: m, h, _, _ => by simp at h
  | z :: l, y :: m, h, x, v => by
    have := slC_snoc (l := l) (m := m) (by simpa using h) x v
    simp only [slC, List.cons_append]
    rw [this]

/-- A part of the object: what lies in blocks of a number. -/
def Hue (F : Nat → Prop) (p : Nat → Nat) (c : Nat) (A : Option Addr) : Prop := ∀ a, A = some a → F a.block ∧ p a.block = c
/-- The table in memory: the blocks of its parts are numbered by p. -/
structure Lo (F : Nat → Prop) (p : Nat → Nat) (w : World) (g : Nat) (m sd : Int) (H : Option Addr) (ch : Nat) (hd : List Int) (S : Option Addr) (cs : Nat) (l : List Nr) (nx : List Int) (R : Option Addr) (cf : Nat) (fr : List Nat) : Prop where
  blk : Blk w g #[.int .i64 m, .int .u64 sd, .slice H hd.length ch, .slice S l.length cs, .slice R fr.length cf] 57
  fg : F g
  pg : p g = 0
  hm : Mine 0 1 w H hd.length ch (zs hd)
  sm : Mine 0 3 w S l.length cs (slC l nx)
  rm : Mine 0 1 w R fr.length cf (ns fr)
  hp : Hue F p 1 H
  sp : Hue F p 2 S
  rp : Hue F p 3 R
  nl : nx.length = l.length
theorem Blk.five {w : World} {g : Nat} {a b c d e : Value} {t : TypeId} (h : Blk w g #[a, b, c, d, e] t) : w.cell? ⟨g, 0, none⟩ = some a ∧ w.cell? ⟨g, 1, none⟩ = some b ∧ w.cell? ⟨g, 2, none⟩ = some c ∧ w.cell? ⟨g, 3, none⟩ = some d ∧ w.cell? ⟨g, 4, none⟩ = some e := ⟨h.cell 0, h.cell 1, h.cell 2, h.cell 3, h.cell 4⟩
section
variable {F F' : Nat → Prop} {p : Nat → Nat} {w w' : World} {g : Nat} {m sd : Int} {H S R : Option Addr} {ch cs cf : Nat} {hd nx : List Int} {l : List Nr} {fr : List Nat}
theorem Lo.lt (h : Lo F p w g m sd H ch hd S cs l nx R cf fr) : g < w.heap.size := h.blk.lt
/-- What stands still outside blocks that are not the table's keeps it. -/
theorem Lo.only (h : Lo F p w g m sd H ch hd S cs l nx R cf fr) (ho : Only F' w w') (hn : ∀ j, F j → ¬ F' j) : Lo F p w' g m sd H ch hd S cs l nx R cf fr :=
  ⟨h.blk.only ho (hn g h.fg), h.fg, h.pg, h.hm.only ho (fun a e => hn _ (h.hp a e).1), h.sm.only ho (fun a e => hn _ (h.sp a e).1), h.rm.only ho (fun a e => hn _ (h.rp a e).1), h.hp, h.sp, h.rp, h.nl⟩
theorem Lo.below {B : Nat} (h : Lo F p w g m sd H ch hd S cs l nx R cf fr) (hb : Below B w w') (hB : w.heap.size ≤ B) : Lo F p w' g m sd H ch hd S cs l nx R cf fr :=
  h.only (Only.of_below hb hB (fun _ => False)) (fun _ _ hf => hf)
theorem Lo.drew (h : Lo F p w g m sd H ch hd S cs l nx R cf fr) : Lo F p w.drew g m sd H ch hd S cs l nx R cf fr := h.only ((Only.refl (fun _ => False) w).drew) (fun _ _ hf => hf)
theorem Lo.drewN (h : Lo F p w g m sd H ch hd S cs l nx R cf fr) (n : Nat) : Lo F p (w.drewN n) g m sd H ch hd S cs l nx R cf fr := h.only ((Only.refl (fun _ => False) w).drewN n) (fun _ _ hf => hf)
theorem Lo.mono (h : Lo F p w g m sd H ch hd S cs l nx R cf fr) (hF : ∀ j, j < w.heap.size → F j → F' j) : Lo F' p w g m sd H ch hd S cs l nx R cf fr :=
  ⟨h.blk, hF _ h.lt h.fg, h.pg, h.hm, h.sm, h.rm, fun a e => ⟨hF _ (h.hm.base e).2.1 (h.hp a e).1, (h.hp a e).2⟩, fun a e => ⟨hF _ (h.sm.base e).2.1 (h.sp a e).1, (h.sp a e).2⟩, fun a e => ⟨hF _ (h.rm.base e).2.1 (h.rp a e).1, (h.rp a e).2⟩, h.nl⟩
/-- The part of number c has changed, and nothing else of the table. -/
theorem keepM {c d sz n cp : Nat} {A : Option Addr} {xs : List Value} (h : Mine 0 sz w A n cp xs) (hA : Hue F p c A) (ho : Only (fun j => F j ∧ p j = d) w w') (hcd : c ≠ d) : Mine 0 sz w' A n cp xs :=
  h.only ho (fun a e hf => by have := (hA a e).2; omega)
theorem keepB {d : Nat} {cv : Array Value} {t : TypeId} (h : Blk w g cv t) (hg : p g = 0) (ho : Only (fun j => F j ∧ p j = d) w w') (hd : 0 ≠ d) : Blk w' g cv t := h.only ho (fun hf => by omega)
/-- The cells of a head, and of a slot. -/
theorem Lo.head (h : Lo F p w g m sd H ch hd S cs l nx R cf fr) {b : Nat} (hb : b < hd.length) : ∃ hb' ho, H = some ⟨hb', ho, none⟩ ∧ hb' < w.heap.size ∧ F hb' ∧ p hb' = 1 ∧ w.cell? ⟨hb', ho + b, none⟩ = some (.int .i64 (hd.getD b 0)) ∧ w.frozen? ⟨hb', ho + b, none⟩ = false := by
  obtain ⟨gA, oA, rfl, _, hl⟩ := mine_place h.hm (by rw [zs_len]; omega)
  obtain ⟨q1, q2⟩ := h.hp _ rfl
  obtain ⟨c1, c2⟩ := mine_cell h.hm (zs_get hb)
  exact ⟨gA, oA, rfl, hl, q1, q2, c1, c2⟩
theorem Lo.slot (h : Lo F p w g m sd H ch hd S cs l nx R cf fr) {k : Nat} (hk : k < l.length) : ∃ sb so, S = some ⟨sb, so, none⟩ ∧ sb < w.heap.size ∧ F sb ∧ p sb = 2 ∧ w.cell? ⟨sb, so + k * 3, none⟩ = some (.string (nk l k)) ∧ w.cell? ⟨sb, so + k * 3 + 1, none⟩ = some (.int .i64 (l.getD k zeroN).r) ∧ w.cell? ⟨sb, so + k * 3 + 2, none⟩ = some (.int .i64 (nx.getD k 0)) ∧ w.frozen? ⟨sb, so + k * 3, none⟩ = false ∧ w.frozen? ⟨sb, so + k * 3 + 1, none⟩ = false ∧ w.frozen? ⟨sb, so + k * 3 + 2, none⟩ = false := by
  obtain ⟨gA, oA, rfl, _, hl⟩ := mine_place h.sm (by rw [slC_len h.nl]; omega)
  obtain ⟨q1, q2⟩ := h.sp _ rfl
  obtain ⟨e0, e1, e2⟩ := slC_get h.nl k hk
  obtain ⟨c1, d1⟩ := mine_cell h.sm e0
  obtain ⟨c2, d2⟩ := mine_cell h.sm e1
  obtain ⟨c3, d3⟩ := mine_cell h.sm e2
  rw [nk_at hk, getD_at hk]
  rw [← Nat.add_assoc] at c2 d2 c3 d3
  exact ⟨gA, oA, rfl, hl, q1, q2, c1, c2, c3, d1, d2, d3⟩
/-- The address of a place. -/
def adr (H S : Option Addr) : Pl → Addr
  | .hd b => match H with | some ⟨hb, ho, _⟩ => ⟨hb, ho + b, none⟩ | none => ⟨0, 0, none⟩
  | .nx k => match S with | some ⟨sb, so, _⟩ => ⟨sb, so + k * 3 + 2, none⟩ | none => ⟨0, 0, none⟩
/-- The cell at a place. -/
theorem Lo.place (h : Lo F p w g m sd H ch hd S cs l nx R cf fr) {q : Pl} (hq : (Sc.mk hd nx).ok q) : w.cell? (adr H S q) = some (.int .i64 ((Sc.mk hd nx).get q)) ∧ w.frozen? (adr H S q) = false ∧ (adr H S q).block < w.heap.size ∧ F (adr H S q).block ∧ (p (adr H S q).block = 1 ∨ p (adr H S q).block = 2) := by
  cases q with
  | hd b =>
    obtain ⟨hb', ho, rfl, h1, h2, h3, h4, h5⟩ := h.head (show b < hd.length from hq)
    exact ⟨h4, h5, h1, h2, Or.inl h3⟩
  | nx k =>
    have hk : k < l.length := by have h0 : k < nx.length := hq; have := h.nl; omega
    obtain ⟨sb, so, rfl, h1, h2, h3, _, _, h4, _, _, h5⟩ := h.slot hk
    exact ⟨h4, h5, h1, h2, Or.inr h3⟩
/-- A place is written. -/
theorem Lo.put (h : Lo F p w g m sd H ch hd S cs l nx R cf fr) {q : Pl} (hq : (Sc.mk hd nx).ok q) (v : Int) : Lo F p (w.setCell (adr H S q) (.int .i64 v)) g m sd H ch ((Sc.mk hd nx).put q v).hd S cs l ((Sc.mk hd nx).put q v).nx R cf fr := by
  cases q with
  | hd b =>
    obtain ⟨hb', ho, rfl, h1, h2, h3, h4, h5⟩ := h.head (show b < hd.length from hq)
    have ho' : Only (fun j => F j ∧ p j = 1) w (w.setCell ⟨hb', ho + b, none⟩ (.int .i64 v)) := only_own (F := fun j => F j ∧ p j = 1) ⟨h2, h3⟩ _
    refine ⟨?_, h.fg, h.pg, ?_, keepM h.sm h.sp ho' (by omega), keepM h.rm h.rp ho' (by omega), h.hp, h.sp, h.rp, h.nl⟩
    · show Blk _ _ #[_, _, .slice _ (hd.set b v).length _, _, _] _
      rw [List.length_set]; exact keepB h.blk h.pg ho' (by omega)
    · show Mine 0 1 _ _ (hd.set b v).length _ (zs (hd.set b v))
      rw [List.length_set]
      exact mine_put h.hm b _ (by rw [zs_len]; exact hq) (zs_set hd b v).symm
  | nx k =>
    have hk : k < l.length := by have h0 : k < nx.length := hq; have := h.nl; omega
    obtain ⟨sb, so, rfl, h1, h2, h3, _, _, h4, _, _, h5⟩ := h.slot hk
    have ho' : Only (fun j => F j ∧ p j = 2) w (w.setCell ⟨sb, so + k * 3 + 2, none⟩ (.int .i64 v)) := only_own (F := fun j => F j ∧ p j = 2) ⟨h2, h3⟩ _
    refine ⟨keepB h.blk h.pg ho' (by omega), h.fg, h.pg, keepM h.hm h.hp ho' (by omega), ?_, keepM h.rm h.rp ho' (by omega), h.hp, h.sp, h.rp, by show (nx.set k v).length = _; rw [List.length_set]; exact h.nl⟩
    show Mine 0 3 (w.setCell ⟨sb, so + k * 3 + 2, none⟩ (.int .i64 v)) _ _ _ (slC l (nx.set k v))
    rw [Nat.add_assoc]
    have hl := slC_len h.nl
    exact mine_put h.sm (k * 3 + 2) _ (by omega) (slC_nx h.nl k hk v)
/-- References are written. -/
theorem Lo.refs {sb so : Nat} (h : Lo F p w g m sd H ch hd (some ⟨sb, so, none⟩) cs l nx R cf fr) {k : Nat} (hk : k < l.length) (r : Int) : Lo F p (w.setCell ⟨sb, so + k * 3 + 1, none⟩ (.int .i64 r)) g m sd H ch hd (some ⟨sb, so, none⟩) cs (l.set k { l[k] with r := r }) nx R cf fr := by
  obtain ⟨sb', so', e, h1, h2, h3, _, _, h4, _, _, h5⟩ := h.slot hk
  injection e with e; injection e with e1 e2
  subst e1; subst e2
  have ho' : Only (fun j => F j ∧ p j = 2) w (w.setCell ⟨sb, so + k * 3 + 1, none⟩ (.int .i64 r)) := only_own (F := fun j => F j ∧ p j = 2) ⟨h2, h3⟩ _
  refine ⟨by rw [List.length_set]; exact keepB h.blk h.pg ho' (by omega), h.fg, h.pg, keepM h.hm h.hp ho' (by omega), ?_, keepM h.rm h.rp ho' (by omega), h.hp, h.sp, h.rp, by rw [List.length_set]; exact h.nl⟩
  rw [List.length_set, Nat.add_assoc]
  have hl := slC_len h.nl
  exact mine_put h.sm (k * 3 + 1) _ (by omega) (slC_rf h.nl k hk r)
/-- A slot is written whole. -/
theorem Lo.whole {sb so : Nat} (h : Lo F p w g m sd H ch hd (some ⟨sb, so, none⟩) cs l nx R cf fr) {k : Nat} (hk : k < l.length) (x : Nr) (v : Int) : Lo F p (((w.setCell ⟨sb, so + k * 3, none⟩ (.string x.k)).setCell ⟨sb, so + k * 3 + 1, none⟩ (.int .i64 x.r)).setCell ⟨sb, so + k * 3 + 2, none⟩ (.int .i64 v)) g m sd H ch hd (some ⟨sb, so, none⟩) cs (l.set k x) (nx.set k v) R cf fr := by
  obtain ⟨sb', so', e, h1, h2, h3, _, _, h4, _, _, h5⟩ := h.slot hk
  injection e with e; injection e with e1 e2
  subst e1; subst e2
  have hl := slC_len h.nl
  have ho' : Only (fun j => F j ∧ p j = 2) w (((w.setCell ⟨sb, so + k * 3, none⟩ (.string x.k)).setCell ⟨sb, so + k * 3 + 1, none⟩ (.int .i64 x.r)).setCell ⟨sb, so + k * 3 + 2, none⟩ (.int .i64 v)) := (((Only.refl (fun j => F j ∧ p j = 2) w).put (ad := ⟨sb, so + k * 3, none⟩) ⟨h2, h3⟩ _).put (ad := ⟨sb, so + k * 3 + 1, none⟩) ⟨h2, h3⟩ _).put (ad := ⟨sb, so + k * 3 + 2, none⟩) ⟨h2, h3⟩ _
  refine ⟨by rw [List.length_set]; exact keepB h.blk h.pg ho' (by omega), h.fg, h.pg, keepM h.hm h.hp ho' (by omega), ?_, keepM h.rm h.rp ho' (by omega), h.hp, h.sp, h.rp, by rw [List.length_set, List.length_set]; exact h.nl⟩
  rw [List.length_set, ← slC_all h.nl k hk x v, Nat.add_assoc so, Nat.add_assoc so]
  refine (((h.sm.store (k * 3) (by omega) _).store (k * 3 + 1) (by rw [List.length_set]; omega) _).store (k * 3 + 2) (by rw [List.length_set, List.length_set]; omega) _)
end
end Go.Proofs.Ytmhbfplpodikiaa.Inc
