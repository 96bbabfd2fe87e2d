/- Proves what the method take of a table leaves in memory. Conditions: as each theorem names them. -/
import Derived.Test.YtmhbfplpodikiaaInf
namespace Go.Proofs.Ytmhbfplpodikiaa.Ing
open Go.RowKit Ap Mi Nw Rg Aa Ai Hm Ina Inb Inc Ind Ine Inf

section
variable {F F' : Nat → Prop} {p : Nat → Nat} {w w' : World} {g : Nat} {m sd : Int} {H S R : Option Addr} {ch cs cf : Nat} {hd nx : List Int} {l : List Nr} {fr : List Nat}
/-- The field with the free numbers is written. -/
theorem Lo_free (h : Lo F p w g m sd H ch hd S cs l nx R cf fr) {R' : Option Addr} {cf' : Nat} {fr' : List Nat} (hm : Mine 0 1 w R' fr'.length cf' (ns fr')) (hu : Hue F p 3 R') : Lo F p (w.setCell ⟨g, 4, none⟩ (.slice R' fr'.length cf')) g m sd H ch hd S cs l nx R' cf' fr' ∧ Only (fun j => F j ∧ p j = 0) w (w.setCell ⟨g, 4, none⟩ (.slice R' fr'.length cf')) := by
  have ho : Only (fun j => F j ∧ p j = 0) w (w.setCell ⟨g, 4, none⟩ (.slice R' fr'.length cf')) := only_own (F := fun j => F j ∧ p j = 0) ⟨h.fg, h.pg⟩ _
  exact ⟨⟨h.blk.set 4 _, h.fg, h.pg, keepM h.hm h.hp ho (by omega), keepM h.sm h.sp ho (by omega), keepM hm hu ho (by omega), h.hp, h.sp, hu, h.nl⟩, ho⟩
/-- The field with the slots is written. -/
theorem Lo_slots (h : Lo F p w g m sd H ch hd S cs l nx R cf fr) {S' : Option Addr} {cs' : Nat} {l' : List Nr} {nx' : List Int} (hm : Mine 0 3 w S' l'.length cs' (slC l' nx')) (hu : Hue F p 2 S') (hn : nx'.length = l'.length) : Lo F p (w.setCell ⟨g, 3, none⟩ (.slice S' l'.length cs')) g m sd H ch hd S' cs' l' nx' R cf fr ∧ Only (fun j => F j ∧ p j = 0) w (w.setCell ⟨g, 3, none⟩ (.slice S' l'.length cs')) := by
  have ho : Only (fun j => F j ∧ p j = 0) w (w.setCell ⟨g, 3, none⟩ (.slice S' l'.length cs')) := only_own (F := fun j => F j ∧ p j = 0) ⟨h.fg, h.pg⟩ _
  exact ⟨⟨h.blk.set 3 _, h.fg, h.pg, keepM h.hm h.hp ho (by omega), keepM hm hu ho (by omega), keepM h.rm h.rp ho (by omega), h.hp, hu, h.rp, hn⟩, ho⟩
/-- Other numbers for blocks that are not the table's. -/
theorem Lo_hue (h : Lo F p w g m sd H ch hd S cs l nx R cf fr) {c : Nat} : Lo F (fun j => if j < w.heap.size then p j else c) w g m sd H ch hd S cs l nx R cf fr := by
  have hl := h.lt
  have hue : ∀ {c' : Nat} {A : Option Addr}, Hue F p c' A → (∀ a, A = some a → a.block < w.heap.size) → Hue F (fun j => if j < w.heap.size then p j else c) c' A := fun {c' A} hu hlt a e => by
    have h1 := hu a e; have h2 := hlt a e
    exact ⟨h1.1, by show (if _ then _ else _) = _; rw [if_pos h2]; exact h1.2⟩
  exact ⟨h.blk, h.fg, by show (if _ then _ else _) = _; rw [if_pos hl]; exact h.pg, h.hm, h.sm, h.rm, hue h.hp (fun a e => (h.hm.base e).2.1), hue h.sp (fun a e => (h.sm.base e).2.1), hue h.rp (fun a e => (h.rm.base e).2.1), h.nl⟩
/-- The slots are another row now, the same or a new one. -/
theorem Lo_app (h : Lo F p w g m sd H ch hd S cs l nx R cf fr) (ho : Only (fun j => F j ∧ p j = 2) w w') {S' : Option Addr} {cs' : Nat} {l' : List Nr} {nx' : List Int} (hm : Mine 0 3 w' S' l'.length cs' (slC l' nx')) (hq : ∀ a, S' = some a → S' = S ∨ w.heap.size ≤ a.block) (hn : nx'.length = l'.length) :
    (∃ p', Lo (More F w) p' (w'.setCell ⟨g, 3, none⟩ (.slice S' l'.length cs')) g m sd H ch hd S' cs' l' nx' R cf fr) ∧ Only F w (w'.setCell ⟨g, 3, none⟩ (.slice S' l'.length cs')) := by
  have hl := h.lt
  have h2 := h.mono (F' := More F w) (fun _ _ hf => Or.inl hf)
  have h3 := Lo_hue h2 (c := 2)
  obtain ⟨p', hp'⟩ : ∃ p', p' = fun j => if j < w.heap.size then p j else 2 := ⟨_, rfl⟩
  rw [← hp'] at h3
  have ho1 : Only (fun j => More F w j ∧ p' j = 2) w w' := ho.mono (fun j hj hf => ⟨Or.inl hf.1, by rw [hp']; show (if _ then _ else _) = _; rw [if_pos hj]; exact hf.2⟩)
  have ho2 : Only (fun j => j = g) w' (w'.setCell ⟨g, 3, none⟩ (.slice S' l'.length cs')) := only_own (F := fun j => j = g) rfl _
  have ng : ∀ {c : Nat} {A : Option Addr}, Hue (More F w) p' c A → 0 ≠ c → ∀ a, A = some a → a.block ≠ g := fun {c A} hu hc a e q => by have h1 := (hu a e).2; rw [q, h3.pg] at h1; exact hc h1
  have hu : Hue (More F w) p' 2 S' := fun a e => by
    rcases hq a e with q | q
    · exact h3.sp a (by rw [← q]; exact e)
    · exact ⟨Or.inr q, by rw [hp']; show (if _ then _ else _) = _; rw [if_neg (by omega)]⟩
  exact ⟨⟨p', (keepB h3.blk h3.pg ho1 (by omega)).set 3 _, h3.fg, h3.pg, (keepM h3.hm h3.hp ho1 (by omega)).only ho2 (fun a e => ng h3.hp (by omega) a e), hm.only ho2 (fun a e => ng hu (by omega) a e), (keepM h3.rm h3.rp ho1 (by omega)).only ho2 (fun a e => ng h3.rp (by omega) a e), h3.hp, hu, h3.rp, hn⟩,
    (ho.mono (fun _ _ hf => hf.1)).put (ad := ⟨g, 3, none⟩) h.fg _⟩
theorem cut_lit (b o c : Nat) : cutM (some ⟨b, o, none⟩) 1 1 c = if c = 1 then some ⟨b, o, none⟩ else some ⟨b, o + 1, none⟩ := by
  unfold cutM
  split
  · rfl
  · simp [Nw.add_lit]
set_option maxRecDepth 100000 in
set_option maxHeartbeats 1000000 in
theorem take_free {n : Nat} {r : List Nat} (h : Lo F p w g m sd H ch hd S cs l nx R cf (n :: r)) (hr : r.length ≤ 1000000) :
    Calls Try.prog 47 #[.pointer (some ⟨g, 0, none⟩)] w fun e w' => e = .returned (.int .i64 (n : Int)) ∧ Lo F p w' g m sd H ch hd S cs l nx (cutM R 1 1 cf) (cf - 1) r ∧ Only F w w' := by
  obtain ⟨rb, ro, rfl, _, hrl⟩ := mine_place h.rm (by rw [ns_len]; simp)
  have hle := h.rm.le
  have hmx := h.rm.max
  have c5 := mine_cell h.rm (k := 0) (ns_get (l := n :: r) (k := 0) (by simp))
  obtain ⟨c0, c1, c2, c3, c4⟩ := Blk.five h.blk
  have f4 := h.blk.frozen 4
  have hm' : Mine 0 1 w (cutM (some ⟨rb, ro, none⟩) 1 1 cf) r.length (cf - 1) (ns r) := by
    have := h.rm.cut 1 (by simp)
    simpa [ns] using this
  have hu' : Hue F p 3 (cutM (some ⟨rb, ro, none⟩) 1 1 cf) := fun a e => by
    obtain ⟨a0, e0, e1⟩ := cutM_block e
    rw [← e1]; exact h.rp _ e0
  obtain ⟨HL, HO⟩ := Lo_free h hm' hu'
  have HL := Lib.hid HL; have HO := Lib.hid (HO.mono (G := F) fun _ _ hf => hf.1)
  have lg := h.lt
  simp only [List.length_cons, List.getElem_cons_zero, Nat.add_zero] at c4 c5 hle
  obtain ⟨c5, f5⟩ := c5
  obtain ⟨k, hk⟩ : ∃ k, k = r.length := ⟨_, rfl⟩
  rw [← hk] at c4 hle hr HL HO
  clear h hm' hu' hk c0 c1 c2 c3
  unfold maxLen at hmx
  rw [cut_lit] at HL HO ⊢
  by_cases hc : cf = 1
  · subst hc
    obtain rfl : k = 0 := by omega
    rw [if_pos rfl] at HL HO ⊢
    go_enter Try.func47, Try.ntmps47
    go_wp2_with fail
    go_ret
    exact ⟨rfl, HL.out, HO.out⟩
  · rw [if_neg hc] at HL HO ⊢
    go_enter Try.func47, Try.ntmps47
    go_wp2_with fail
    go_ret
    exact ⟨rfl, HL.out, HO.out⟩
/-- What a literal of n elements is as a source of append. -/
theorem src_lit {w : World} {t e e' : TypeId} (hk : Try.prog.underlying t = some (.slice e)) (cs : Array Value) (n sz : Nat) (hn : cs.size = n * sz) (h1 : ∀ u ∈ cs.toList, u.oneCell' = true) : Src Try.prog sz t (.slice (some ⟨w.heap.size, 0, none⟩) n n) n cs.toList (w.alloc (.cells cs e')) :=
  Src.ofSlice _ hk _ n n cs.toList (by simpa using hn) (fun j u hu => by
    rw [Nw.add_lit, Nat.zero_add, cell_of_row _ _ j cs e' (0, 0) (heap_alloc_new w _)]; simpa using hu) h1
theorem only_row {w w' : World} {A : Option Addr} {F : Nat → Prop} (h : w.grownBy w' (A.map (·.block))) (hA : ∀ a, A = some a → F a.block) : Only F w w' :=
  Only.of_grown h (fun k e => by rw [Option.map_eq_some_iff] at e; obtain ⟨a, ha, e⟩ := e; rw [← e]; exact hA a ha)
set_option maxRecDepth 100000 in
set_option maxHeartbeats 1000000 in
theorem take_grow (h : Lo F p w g m sd H ch hd S cs l nx R cf []) (hl : l.length ≤ 1000000) :
    Calls Try.prog 47 #[.pointer (some ⟨g, 0, none⟩)] w fun e w' => e = .returned (.int .i64 (l.length : Int)) ∧ (∃ p' S' cs', Lo (More F w) p' w' g m sd H ch hd S' cs' (l ++ [zeroN]) (nx ++ [0]) R cf []) ∧ Only F w w' := by
  have HH := Lib.hid h
  obtain ⟨c0, c1, c2, c3, c4⟩ := Blk.five h.blk
  have f3 := h.blk.frozen 3
  have lg := h.lt
  have bA := bnew w (.cells #[.string ⟨#[]⟩, .int .i64 0, .int .i64 0] 78)
  have HM := Lib.hid (h.sm.below bA (Nat.le_refl _))
  have h1 := (h.below bA (Nat.le_refl _))
  have HB := Lib.hid h1
  clear h bA c0 c1 c2 h1
  go_enter Try.func47, Try.ntmps47
  go_wp2_with (at_builtin; (refine wpList_mine rfl _ _ elT _ rfl rfl HM.out _ rfl 1 _ (src_lit Try.underlying55 #[.string ⟨#[]⟩, .int .i64 0, .int .i64 0] 1 3 rfl (by simp [Value.oneCell'])) (by omega) (by omega) (Nat.zero_le _) ?_))
  intro S' cs' w1 m1 g1 q1
  have HO1 : Hid (Only (fun j => F j ∧ p j = 2) w w1) := (Only.of_below (bnew w _) (Nat.le_refl _) _).trans ((only_row (F := fun j => F j ∧ p j = 2) g1 (fun a ha => HH.out.sp a ha)).mono fun _ _ hf => Or.inl hf)
  have hz := g1.size
  have HM1 : Hid (Mine 0 3 w1 S' (l ++ [zeroN]).length cs' (slC (l ++ [zeroN]) (nx ++ [0]))) := by
    rw [slC_snoc HH.out.nl, List.length_append]; exact m1
  have HQ : Hid (∀ a, S' = some a → S' = S ∨ w.heap.size ≤ a.block) := fun a ha => by
    rcases q1 with h | h
    · exact Or.inl h
    · have h2 : w.heap.size + 1 ≤ a.block := by simpa using h a ha
      exact Or.inr (by omega)
  have d3 : w1.cell? ⟨g, 3, none⟩ = some (.slice S l.length cs) := by rw [HO1.out.cell (a := ⟨g, 3, none⟩) lg (fun hf => by have h2 := HH.out.pg; have h3 : p g = 2 := hf.2; omega)]; exact c3
  have e3 : w1.frozen? ⟨g, 3, none⟩ = false := by rw [HO1.out.frozen (a := ⟨g, 3, none⟩) lg (fun hf => by have h2 := HH.out.pg; have h3 : p g = 2 := hf.2; omega)]; exact f3
  clear m1 g1 q1 c3 c4 f3
  go_wp2_with fail
  go_ret
  obtain ⟨h1, h2⟩ := Lo_app HH.out HO1.out HM1.out HQ.out (by rw [List.length_append, List.length_append, HH.out.nl]; rfl)
  rw [List.length_append] at h1 h2
  obtain ⟨p', h1⟩ := h1
  exact ⟨rfl, ⟨p', S', cs', h1⟩, h2⟩
end
end Go.Proofs.Ytmhbfplpodikiaa.Ing
