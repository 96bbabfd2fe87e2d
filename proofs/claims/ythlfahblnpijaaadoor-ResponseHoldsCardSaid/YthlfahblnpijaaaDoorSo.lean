/- Proves words for rows of items, of numbers and of slices of bytes, of the call's own, and what an append of one element leaves; and what a response that has been read gives. Condition: few elements. No function of the program. -/
import Derived.Test.YthlfahblnpijaaaDoorSe
import Derived.Test.YthlfahblnpijaaaDoorFc
namespace Go.Proofs.YthlfahblnpijaaaDoor.So
open Go.RowKit Vm Ap Vw Va Gc Mi Mb Qm Sm Se Fc

theorem elmI : Elm Tryd.prog 24 49 (.agg #[.int .i64 0, .slice none 0 0, .int .u64 0, .int .u64 0]) 4 where
  sl := Tryd.underlying24
  info := by kernel_rfl
  small := by
    have h : (Tryd.prog.info? 49).map (·.bytes) = some 48 := by kernel_rfl
    intro i hi; rw [hi] at h; simp at h; omega
  cells := rfl
  pos := by omega
theorem elmN : Elm Tryd.prog 26 25 (.int .u64 0) 1 where
  sl := Tryd.underlying26
  info := by kernel_rfl
  small := by
    have h : (Tryd.prog.info? 25).map (·.bytes) = some 8 := by kernel_rfl
    intro i hi; rw [hi] at h; simp at h; omega
  cells := rfl
  pos := by omega
theorem elmS : Elm Tryd.prog 78 29 (.slice none 0 0) 1 where
  sl := Tryd.underlying78
  info := by kernel_rfl
  small := by
    have h : (Tryd.prog.info? 29).map (·.bytes) = some 24 := by kernel_rfl
    intro i hi; rw [hi] at h; simp at h; omega
  cells := rfl
  pos := by omega
/-- A block that is not that of the row at U stands still, and is not that of the row at U'. -/
def Keep (w : World) (U : Option Addr) (w' : World) (U' : Option Addr) : Prop := ∀ D, D < w.heap.size → (∀ a, U = some a → a.block ≠ D) → (∀ a, U' = some a → a.block ≠ D) ∧ w'.heap[D]? = w.heap[D]?
theorem keep_of {w w' : World} {A A' : Option Addr} (h2 : w.grownBy w' (A.map (·.block))) (h3 : A' = A ∨ ∀ a, A' = some a → w.heap.size ≤ a.block) : Keep w A w' A' := fun D hD hne => by
  refine ⟨fun a ha => ?_, h2.block D hD (fun e => ?_)⟩
  · rcases h3 with h3 | h3
    · rw [h3] at ha; exact hne a ha
    · have := h3 a ha; omega
  · have e' := e.symm
    rw [Option.map_eq_some_iff] at e'
    obtain ⟨b, hb, e''⟩ := e'
    exact hne b hb e''
/-- A literal of one element in a new block is a source of append. -/
theorem src_one {w : World} {tx e : TypeId} {sz nb : Nat} (hnb : w.heap.size = nb) (cs : Array Value) (hk : Tryd.prog.underlying tx = some (.slice e)) (hn : cs.size = sz) (h1 : ∀ u ∈ cs.toList, u.oneCell' = true) : Src Tryd.prog sz tx (.slice (some ⟨nb, 0, none⟩) 1 1) 1 cs.toList (w.alloc (.cells cs e)) := by
  subst hnb
  exact Src.ofSlice _ hk ⟨w.heap.size, 0, none⟩ 1 1 cs.toList (by simp [hn]) (new_cells w cs e) h1
theorem one_item (y : Im) : ∀ u ∈ (#[.int .i64 y.i.mark, .slice y.A y.i.value.length y.k, .int .u64 (y.i.version : Int), .int .u64 (y.i.dead : Int)] : Array Value).toList, u.oneCell' = true := by intro u hu; simp at hu; rcases hu with rfl | rfl | rfl | rfl <;> rfl

/-- Items in a row of the call's own; what they hold lies elsewhere. -/
structure ItO (K : Nat) (w : World) (IA : Option Addr) (ik : Nat) (ys : List Im) : Prop where
  mi : Mine K 4 w IA ys.length ik (imL ys)
  pay : ∀ y ∈ ys, Rb w y.A y.i.value ∧ (y.A = none → y.k = 0) ∧ ∀ a, y.A = some a → K ≤ a.block ∧ a.block < w.heap.size ∧ ∀ b, IA = some b → a.block ≠ b.block
theorem ItO.nil (K : Nat) (w : World) : ItO K w none 0 [] := ⟨Mine.nil _ _ _, by simp⟩
theorem ItO.only {K : Nat} {w w' : World} {IA : Option Addr} {ik : Nat} {ys : List Im} (h : ItO K w IA ik ys) {F : Nat → Prop} (ho : Only F w w') (hF : ∀ j, K ≤ j → j < w.heap.size → ¬ F j) : ItO K w' IA ik ys :=
  ⟨h.mi.only ho (fun a ha => hF _ (h.mi.base ha).1 (h.mi.base ha).2.1),
    fun x hx => ⟨rb_only (h.pay x hx).1 ho (fun a ha => hF _ ((h.pay x hx).2.2 a ha).1 ((h.pay x hx).2.2 a ha).2.1), (h.pay x hx).2.1, fun a ha => by
      obtain ⟨h1, h2, h3⟩ := (h.pay x hx).2.2 a ha
      exact ⟨h1, Nat.lt_of_lt_of_le h2 ho.size, h3⟩⟩⟩
theorem ItO.below {K : Nat} {w w' : World} {B : Nat} {IA : Option Addr} {ik : Nat} {ys : List Im} (h : ItO K w IA ik ys) (hb : Below B w w') (hB : w.heap.size ≤ B) : ItO K w' IA ik ys :=
  h.only (Only.of_below hb hB (fun _ => False)) (fun _ _ _ hf => hf)
theorem ItO.mono {K K' : Nat} {w : World} {IA : Option Addr} {ik : Nat} {ys : List Im} (h : ItO K w IA ik ys) (hK : K' ≤ K) : ItO K' w IA ik ys :=
  ⟨h.mi.mono hK, fun x hx => ⟨(h.pay x hx).1, (h.pay x hx).2.1, fun a ha => ⟨Nat.le_trans hK ((h.pay x hx).2.2 a ha).1, ((h.pay x hx).2.2 a ha).2⟩⟩⟩
/-- Another block is written: the items stand. -/
theorem ItO.other {K : Nat} {w w' : World} {IA : Option Addr} {ik : Nat} {ys : List Im} (h : ItO K w IA ik ys) {F : Nat → Prop} (ho : Only F w w') (h1 : ∀ a, IA = some a → ¬ F a.block) (h2 : ∀ y ∈ ys, ∀ a, y.A = some a → ¬ F a.block) : ItO K w' IA ik ys :=
  ⟨h.mi.only ho h1, fun x hx => ⟨rb_only (h.pay x hx).1 ho (h2 x hx), (h.pay x hx).2.1, fun a ha => by
      obtain ⟨g1, g2, g3⟩ := (h.pay x hx).2.2 a ha
      exact ⟨g1, Nat.lt_of_lt_of_le g2 ho.size, g3⟩⟩⟩
theorem ItO.push {K : Nat} {w w' : World} {IA A' : Option Addr} {ik c' : Nat} {ys : List Im} (h : ItO K w IA ik ys) (x : Im)
    (hx : Rb w x.A x.i.value ∧ (x.A = none → x.k = 0) ∧ ∀ a, x.A = some a → K ≤ a.block ∧ a.block < w.heap.size ∧ ∀ b, IA = some b → a.block ≠ b.block)
    (m1 : Mine K 4 w' A' (ys.length + 1) c' (imL ys ++ imC x)) (g1 : w.grownBy w' (IA.map (·.block))) (d1 : A' = IA ∨ ∀ a, A' = some a → w.heap.size ≤ a.block) : ItO K w' A' c' (ys ++ [x]) := by
  have ho : Only (fun j => ∃ b, IA = some b ∧ b.block = j) w w' := Only.of_grown g1 (fun k e => by rw [Option.map_eq_some_iff] at e; exact e)
  have key : ∀ y : Im, (Rb w y.A y.i.value ∧ (y.A = none → y.k = 0) ∧ ∀ a, y.A = some a → K ≤ a.block ∧ a.block < w.heap.size ∧ ∀ b, IA = some b → a.block ≠ b.block) →
      (Rb w' y.A y.i.value ∧ (y.A = none → y.k = 0) ∧ ∀ a, y.A = some a → K ≤ a.block ∧ a.block < w'.heap.size ∧ ∀ b, A' = some b → a.block ≠ b.block) := fun y hy => by
    refine ⟨rb_only hy.1 ho (fun a ha ⟨b, hb, e⟩ => (hy.2.2 a ha).2.2 b hb e.symm), hy.2.1, fun a ha => ?_⟩
    obtain ⟨h1, h2, h3⟩ := hy.2.2 a ha
    refine ⟨h1, Nat.lt_of_lt_of_le h2 ho.size, fun b hb => ?_⟩
    rcases d1 with d1 | d1
    · rw [d1] at hb; exact h3 b hb
    · have := d1 b hb; omega
  refine ⟨?_, fun y hy => ?_⟩
  · rw [imL_snoc, List.length_append]; exact m1
  · rcases List.mem_append.1 hy with hy | hy
    · exact key y (h.pay y hy)
    · rw [List.mem_singleton.1 hy]; exact key x hx
theorem wpList_item {ops : Array Oper} {rest : List Oper} {o : Oper} {a : Act} {Q : Exit → Act → World → Prop} {w : World} (hgd : o.guard = none) (s x : Operand)
    (ho : o.op = .call { callee := .builtin .append, args := #[s, x], argTypes := #[24, 24] })
    {K nb n : Nat} {IA : Option Addr} {ys : List Im} {ik : Nat} (hn : ys.length = n) (hs : a.eval s = .slice IA n ik) (h : ItO K w IA ik ys) (y : Im) (hnb : w.heap.size = nb)
    (hx : a.eval x = .slice (some ⟨nb, 0, none⟩) 1 1)
    (hy : Rb w y.A y.i.value ∧ (y.A = none → y.k = 0) ∧ ∀ a, y.A = some a → K ≤ a.block ∧ a.block < w.heap.size ∧ ∀ b, IA = some b → a.block ≠ b.block) (hl : n ≤ 1000000) (hK : K ≤ w.heap.size)
    {ww : World} (hw : ww = w.alloc (.cells #[.int .i64 y.i.mark, .slice y.A y.i.value.length y.k, .int .u64 (y.i.version : Int), .int .u64 (y.i.dead : Int)] 49))
    (hh : ∀ A' c' w' ys', Hid (ys' = ys ++ [y]) → ItO K w' A' c' ys' → Below K w w' → Keep w IA w' A' → wpList Tryd.prog ops Q rest (a.put o.dst (.slice A' ys'.length c')) w') :
    wpList Tryd.prog ops Q (o :: rest) a ww := by
  subst hw
  subst hn
  have hb1 := below_new w (.cells #[.int .i64 y.i.mark, .slice y.A y.i.value.length y.k, .int .u64 (y.i.version : Int), .int .u64 (y.i.dead : Int)] 49)
  have h1 := h.below hb1 (Nat.le_refl _)
  refine wpList_mine hgd s x elmI _ ho hs h1.mi _ hx 1 _ (src_one hnb _ Tryd.underlying24 rfl (one_item y)) (by omega) (by omega) (Nat.le_trans hK hb1.size) (fun A' c' w' m1 g1 d1 => ?_)
  have hy1 : Rb (w.alloc (.cells #[.int .i64 y.i.mark, .slice y.A y.i.value.length y.k, .int .u64 (y.i.version : Int), .int .u64 (y.i.dead : Int)] 49)) y.A y.i.value ∧ (y.A = none → y.k = 0) ∧ ∀ a, y.A = some a → K ≤ a.block ∧ a.block < (w.alloc (.cells #[.int .i64 y.i.mark, .slice y.A y.i.value.length y.k, .int .u64 (y.i.version : Int), .int .u64 (y.i.dead : Int)] 49)).heap.size ∧ ∀ b, IA = some b → a.block ≠ b.block :=
    ⟨hy.1.below hb1 (Nat.le_refl _), hy.2.1, fun a ha => ⟨(hy.2.2 a ha).1, Nat.lt_of_lt_of_le (hy.2.2 a ha).2.1 hb1.size, (hy.2.2 a ha).2.2⟩⟩
  have hp := h1.push y hy1 m1 g1 d1
  have hbb : Below K w w' := (hb1.mono hK).trans (below_of_grown g1 (Nat.le_trans hK hb1.size) (fun k e => by
    rw [Option.map_eq_some_iff] at e
    obtain ⟨b, hb, e''⟩ := e
    have := (h.mi.base hb).1; omega))
  have hkp : Keep w IA w' A' := fun D hD hne => by
    obtain ⟨k1, k2⟩ := keep_of g1 d1 D (Nat.lt_of_lt_of_le hD hb1.size) hne
    exact ⟨k1, k2.trans (hb1.block D hD)⟩
  have := hh A' c' w' _ (Lib.hid rfl) hp hbb hkp
  rw [List.length_append] at this
  exact this
theorem ri_mine {K : Nat} {w : World} {A : Option Addr} {c : Nat} {ys : List Im} (h : Mine K 4 w A ys.length c (imL ys)) : RI w A ys := fun h0 => by
  cases A with
  | none => have := h.non rfl; have := h.le; omega
  | some a =>
    obtain ⟨g, o, rfl, h1, h2, h3, h4⟩ := h.lies a rfl
    refine ⟨g, o, rfl, h2, fun j hj => ?_⟩
    have hl := imL_len ys
    obtain ⟨e0, e1, e2, e3⟩ := imL_get ys j hj
    rw [List.getElem?_eq_getElem (by omega)] at e0 e1 e2 e3
    injection e0 with e0; injection e1 with e1; injection e2 with e2; injection e3 with e3
    rw [h4 (j * 4) (by omega), e0, show o + j * 4 + 1 = o + (j * 4 + 1) from by omega, h4 (j * 4 + 1) (by omega), e1, show o + j * 4 + 2 = o + (j * 4 + 2) from by omega, h4 (j * 4 + 2) (by omega), e2, show o + j * 4 + 3 = o + (j * 4 + 3) from by omega, h4 (j * 4 + 3) (by omega), e3]
    exact ⟨rfl, rfl, rfl, rfl⟩

/-- Numbers in a row of the call's own. -/
def numV (n : Nat) : Value := .int .u64 (n : Int)
abbrev NuO (K : Nat) (w : World) (NA : Option Addr) (nk : Nat) (ns : List Nat) : Prop := Mine K 1 w NA ns.length nk (ns.map numV)
theorem wpList_num {ops : Array Oper} {rest : List Oper} {o : Oper} {a : Act} {Q : Exit → Act → World → Prop} {w : World} (hgd : o.guard = none) (s x : Operand)
    (ho : o.op = .call { callee := .builtin .append, args := #[s, x], argTypes := #[26, 26] })
    {K nb n : Nat} {NA : Option Addr} {ns : List Nat} {nk : Nat} (hn : ns.length = n) (hs : a.eval s = .slice NA n nk) (h : NuO K w NA nk ns) (y : Nat) (hnb : w.heap.size = nb)
    (hx : a.eval x = .slice (some ⟨nb, 0, none⟩) 1 1) (hl : n ≤ 1000000) (hK : K ≤ w.heap.size)
    {ww : World} (hw : ww = w.alloc (.cells #[.int .u64 (y : Int)] 25))
    (hh : ∀ A' c' w' ns', Hid (ns' = ns ++ [y]) → NuO K w' A' c' ns' → Below K w w' → Keep w NA w' A' → wpList Tryd.prog ops Q rest (a.put o.dst (.slice A' ns'.length c')) w') :
    wpList Tryd.prog ops Q (o :: rest) a ww := by
  subst hw
  subst hn
  have hb1 := below_new w (.cells #[.int .u64 (y : Int)] 25)
  have h1 := Mine.below h hb1 (Nat.le_refl _)
  refine wpList_mine hgd s x elmN _ ho hs h1 _ hx 1 _ (src_one hnb _ Tryd.underlying26 rfl (by intro u hu; simp at hu; subst hu; rfl)) (by omega) (by omega) (Nat.le_trans hK hb1.size) (fun A' c' w' m1 g1 d1 => ?_)
  have hbb : Below K w w' := (hb1.mono hK).trans (below_of_grown g1 (Nat.le_trans hK hb1.size) (fun k e => by
    rw [Option.map_eq_some_iff] at e
    obtain ⟨b, hb, e''⟩ := e
    have := (Mine.base h hb).1; omega))
  have hkp : Keep w NA w' A' := fun D hD hne => by
    obtain ⟨k1, k2⟩ := keep_of g1 d1 D (Nat.lt_of_lt_of_le hD hb1.size) hne
    exact ⟨k1, k2.trans (hb1.block D hD)⟩
  have hp : NuO K w' A' c' (ns ++ [y]) := by
    show Mine K 1 w' A' (ns ++ [y]).length c' ((ns ++ [y]).map numV)
    rw [List.length_append, List.map_append]; exact m1
  have := hh A' c' w' _ (Lib.hid rfl) hp hbb hkp
  rw [List.length_append] at this
  exact this
theorem rn_mine {K : Nat} {w : World} {A : Option Addr} {c : Nat} {ns : List Nat} (h : NuO K w A c ns) : RN w A ns := fun h0 => by
  cases A with
  | none => have := Mine.non h rfl; have := Mine.le h; omega
  | some a =>
    obtain ⟨g, o, rfl, h1, h2, h3, h4⟩ := Mine.lies h a rfl
    refine ⟨g, o, rfl, h2, fun j hj => ?_⟩
    rw [h4 j (by simpa using hj)]
    simp [numV]

/-- Slices of bytes in a row of the call's own; what they hold lies elsewhere. -/
def slV (x : Sl) : Value := .slice x.A x.l.length x.c
structure PcO (K : Nat) (w : World) (Z : Option Addr) (zc : Nat) (ls : List Sl) : Prop where
  mi : Mine K 1 w Z ls.length zc (ls.map slV)
  pay : ∀ y ∈ ls, Rb w y.A y.l ∧ (y.A = none → y.c = 0) ∧ ∀ a, y.A = some a → a.block < w.heap.size ∧ ∀ b, Z = some b → a.block ≠ b.block
theorem PcO.nil (K : Nat) (w : World) : PcO K w none 0 [] := ⟨Mine.nil _ _ _, by simp⟩
theorem PcO.below {K : Nat} {w w' : World} {B : Nat} {Z : Option Addr} {zc : Nat} {ls : List Sl} (h : PcO K w Z zc ls) (hb : Below B w w') (hB : w.heap.size ≤ B) : PcO K w' Z zc ls :=
  ⟨h.mi.below hb hB, fun x hx => ⟨(h.pay x hx).1.below hb hB, (h.pay x hx).2.1, fun a ha => ⟨Nat.lt_of_lt_of_le ((h.pay x hx).2.2 a ha).1 hb.size, ((h.pay x hx).2.2 a ha).2⟩⟩⟩
theorem PcO.rs {K : Nat} {w : World} {Z : Option Addr} {zc : Nat} {ls : List Sl} (h : PcO K w Z zc ls) : Rs w Z ls := fun h0 => by
  cases Z with
  | none => have := h.mi.non rfl; have := h.mi.le; omega
  | some a =>
    obtain ⟨g, o, rfl, h1, h2, h3, h4⟩ := h.mi.lies a rfl
    refine ⟨g, o, rfl, h2, fun j hj => ?_⟩
    rw [h4 j (by simpa using hj)]
    simp [slV]
theorem PcO.each {K : Nat} {w : World} {Z : Option Addr} {zc : Nat} {ls : List Sl} (h : PcO K w Z zc ls) : Each w ls := fun x hx => ⟨(h.pay x hx).1, (h.pay x hx).2.1⟩
/-- A literal of one slice. -/
theorem PcO.lit (w : World) (y : Sl) (hr : Rb w y.A y.l) (hn : y.A = none → y.c = 0) (hb : ∀ a, y.A = some a → a.block < w.heap.size) : PcO w.heap.size (w.alloc (.cells #[.slice y.A y.l.length y.c] 29)) (some ⟨w.heap.size, 0, none⟩) 1 [y] := by
  have hb1 := below_new w (.cells #[.slice y.A y.l.length y.c] 29)
  refine ⟨Mine.lit w #[.slice y.A y.l.length y.c] 29 1 rfl (by unfold maxLen; omega), fun x hx => ?_⟩
  rw [List.mem_singleton.1 hx]
  refine ⟨hr.below hb1 (Nat.le_refl _), hn, fun a ha => ⟨Nat.lt_of_lt_of_le (hb a ha) hb1.size, fun b e => ?_⟩⟩
  injection e with e
  have := hb a ha
  rw [← e]; show a.block ≠ w.heap.size; omega
theorem wpList_piece {ops : Array Oper} {rest : List Oper} {o : Oper} {a : Act} {Q : Exit → Act → World → Prop} {w : World} (hgd : o.guard = none) (s x : Operand)
    (ho : o.op = .call { callee := .builtin .append, args := #[s, x], argTypes := #[78, 78] })
    {K nb n : Nat} {Z : Option Addr} {ls : List Sl} {zc : Nat} (hn : ls.length = n) (hs : a.eval s = .slice Z n zc) (h : PcO K w Z zc ls) (y : Sl) (hnb : w.heap.size = nb)
    (hx : a.eval x = .slice (some ⟨nb, 0, none⟩) 1 1)
    (hy : Rb w y.A y.l ∧ (y.A = none → y.c = 0) ∧ ∀ a, y.A = some a → a.block < w.heap.size ∧ ∀ b, Z = some b → a.block ≠ b.block) (hl : n ≤ 1000000) (hK : K ≤ w.heap.size)
    {ww : World} (hw : ww = w.alloc (.cells #[.slice y.A y.l.length y.c] 29))
    (hh : ∀ Z' zc' w' ls', Hid (ls' = ls ++ [y]) → PcO K w' Z' zc' ls' → Below K w w' → Keep w Z w' Z' → wpList Tryd.prog ops Q rest (a.put o.dst (.slice Z' ls'.length zc')) w') :
    wpList Tryd.prog ops Q (o :: rest) a ww := by
  subst hw
  subst hn
  have hb1 := below_new w (.cells #[.slice y.A y.l.length y.c] 29)
  have h1 := h.below hb1 (Nat.le_refl _)
  refine wpList_mine hgd s x elmS _ ho hs h1.mi _ hx 1 _ (src_one hnb _ Tryd.underlying78 rfl (by intro u hu; simp at hu; subst hu; rfl)) (by omega) (by omega) (Nat.le_trans hK hb1.size) (fun Z' zc' w' m1 g1 d1 => ?_)
  have ho : Only (fun j => ∃ b, Z = some b ∧ b.block = j) (w.alloc (.cells #[.slice y.A y.l.length y.c] 29)) w' := Only.of_grown g1 (fun k e => by rw [Option.map_eq_some_iff] at e; exact e)
  have key : ∀ y2 : Sl, (Rb (w.alloc (.cells #[.slice y.A y.l.length y.c] 29)) y2.A y2.l ∧ (y2.A = none → y2.c = 0) ∧ ∀ a, y2.A = some a → a.block < (w.alloc (.cells #[.slice y.A y.l.length y.c] 29)).heap.size ∧ ∀ b, Z = some b → a.block ≠ b.block) →
      (Rb w' y2.A y2.l ∧ (y2.A = none → y2.c = 0) ∧ ∀ a, y2.A = some a → a.block < w'.heap.size ∧ ∀ b, Z' = some b → a.block ≠ b.block) := fun y2 hy2 => by
    refine ⟨rb_only hy2.1 ho (fun a ha ⟨b, hb, e⟩ => (hy2.2.2 a ha).2 b hb e.symm), hy2.2.1, fun a ha => ?_⟩
    obtain ⟨h2, h3⟩ := hy2.2.2 a ha
    refine ⟨Nat.lt_of_lt_of_le h2 ho.size, fun b hb => ?_⟩
    rcases d1 with d1 | d1
    · rw [d1] at hb; exact h3 b hb
    · have := d1 b hb; omega
  have hp : PcO K w' Z' zc' (ls ++ [y]) := by
    refine ⟨by rw [List.length_append, List.map_append]; exact m1, fun y2 hy2 => ?_⟩
    rcases List.mem_append.1 hy2 with hy2 | hy2
    · exact key y2 (h1.pay y2 hy2)
    · rw [List.mem_singleton.1 hy2]
      exact key y ⟨hy.1.below hb1 (Nat.le_refl _), hy.2.1, fun a ha => ⟨Nat.lt_of_lt_of_le (hy.2.2 a ha).1 hb1.size, (hy.2.2 a ha).2⟩⟩
  have hbb : Below K w w' := (hb1.mono hK).trans (below_of_grown g1 (Nat.le_trans hK hb1.size) (fun k e => by
    rw [Option.map_eq_some_iff] at e
    obtain ⟨b, hb, e''⟩ := e
    have := (h.mi.base hb).1; omega))
  have hkp : Keep w Z w' Z' := fun D hD hne => by
    obtain ⟨k1, k2⟩ := keep_of g1 d1 D (Nat.lt_of_lt_of_le hD hb1.size) hne
    exact ⟨k1, k2.trans (hb1.block D hD)⟩
  have := hh Z' zc' w' _ (Lib.hid rfl) hp hbb hkp
  rw [List.length_append] at this
  exact this
theorem flat_snoc (ls : List Sl) (y : Sl) : flat (ls ++ [y]) = flat ls ++ y.l := by unfold flat; rw [List.flatMap_append]; simp

/-- What a response that has been read gives: it is bounded, and lies in new memory. -/
structure GotS (B : Nat) (w : World) (x : Res) : Prop where
  rc : RRc w x
  bnd : BndS x
  bi : ∀ a, x.IA = some a → B ≤ a.block ∧ a.block < w.heap.size
  bn : ∀ a, x.NA = some a → B ≤ a.block ∧ a.block < w.heap.size
  bv : ∀ y ∈ x.items, ∀ a, y.A = some a → B ≤ a.block ∧ a.block < w.heap.size
theorem GotS.only {B : Nat} {w w' : World} {x : Res} (h : GotS B w x) {F : Nat → Prop} (ho : Only F w w') (hF : ∀ j, B ≤ j → j < w.heap.size → ¬ F j) : GotS B w' x :=
  ⟨h.rc.only ho (fun a ha => hF _ (h.bi a ha).1 (h.bi a ha).2) (fun y hy a ha => hF _ (h.bv y hy a ha).1 (h.bv y hy a ha).2) (fun a ha => hF _ (h.bn a ha).1 (h.bn a ha).2), h.bnd,
    fun a ha => ⟨(h.bi a ha).1, Nat.lt_of_lt_of_le (h.bi a ha).2 ho.size⟩, fun a ha => ⟨(h.bn a ha).1, Nat.lt_of_lt_of_le (h.bn a ha).2 ho.size⟩, fun y hy a ha => ⟨(h.bv y hy a ha).1, Nat.lt_of_lt_of_le (h.bv y hy a ha).2 ho.size⟩⟩
theorem GotS.below {B B' : Nat} {w w' : World} {x : Res} (h : GotS B w x) (hb : Below B' w w') (hB : w.heap.size ≤ B') : GotS B w' x :=
  h.only (Only.of_below hb hB (fun _ => False)) (fun _ _ _ e => e)
theorem GotS.mono {B B' : Nat} {w : World} {x : Res} (h : GotS B w x) (hB : B' ≤ B) : GotS B' w x :=
  ⟨h.rc, h.bnd, fun a ha => ⟨Nat.le_trans hB (h.bi a ha).1, (h.bi a ha).2⟩, fun a ha => ⟨Nat.le_trans hB (h.bn a ha).1, (h.bn a ha).2⟩, fun y hy a ha => ⟨Nat.le_trans hB (h.bv y hy a ha).1, (h.bv y hy a ha).2⟩⟩
theorem bnd_bareS (op err : Int) (h1 : -9223372036854775808 ≤ op) (h2 : op ≤ 9223372036854775807) (h3 : -9223372036854775808 ≤ err) (h4 : err ≤ 9223372036854775807) : BndS (startS op err) := ⟨h1, h2, h3, h4, by simp [startS], by simp [startS], by simp [startS], by simp [startS], by simp [startS], (fun y hy => by cases hy), (fun n hn => by cases hn)⟩
theorem gotS_zero (B : Nat) (w : World) : GotS B w (startS 0 0) :=
  ⟨RRc.start w 0 0, bnd_bareS 0 0 (by omega) (by omega) (by omega) (by omega), (fun a e => by cases e), (fun a e => by cases e), (fun y hy => by cases hy)⟩
theorem _root_.Go.Proofs.YthlfahblnpijaaaDoor.Se.BoxI.kept {w w' : World} {g : Nat} {x : Im} (h : BoxI w g x) (e : w'.heap[g]? = w.heap[g]?) : BoxI w' g x := by
  have hc : ∀ j, w'.cell? ⟨g, j, none⟩ = w.cell? ⟨g, j, none⟩ := fun j => World.cell?_of_block (a := ⟨g, j, none⟩) e
  exact ⟨(hc 0).trans h.c0, (hc 1).trans h.c1, (hc 2).trans h.c2, (hc 3).trans h.c3, fun j => (World.frozen?_of_block (a := ⟨g, j, none⟩) e).trans (h.un j)⟩
theorem _root_.Go.Proofs.YthlfahblnpijaaaDoor.Se.BoxS.kept {w w' : World} {g : Nat} {x : Res} (h : BoxS w g x) (e : w'.heap[g]? = w.heap[g]?) : BoxS w' g x := by
  have hc : ∀ j, w'.cell? ⟨g, j, none⟩ = w.cell? ⟨g, j, none⟩ := fun j => World.cell?_of_block (a := ⟨g, j, none⟩) e
  exact ⟨(hc 0).trans h.c0, (hc 1).trans h.c1, (hc 2).trans h.c2, (hc 3).trans h.c3, (hc 4).trans h.c4, (hc 5).trans h.c5, fun j => (World.frozen?_of_block (a := ⟨g, j, none⟩) e).trans (h.un j)⟩
theorem _root_.Go.Proofs.YthlfahblnpijaaaDoor.Gc.Cel.kept {w w' : World} {g : Nat} {x y : Value} (h : Cel w g x y) (e : w'.heap[g]? = w.heap[g]?) : Cel w' g x y := by
  have hc : ∀ j, w'.cell? ⟨g, j, none⟩ = w.cell? ⟨g, j, none⟩ := fun j => World.cell?_of_block (a := ⟨g, j, none⟩) e
  have hf : ∀ j, w'.frozen? ⟨g, j, none⟩ = w.frozen? ⟨g, j, none⟩ := fun j => World.frozen?_of_block (a := ⟨g, j, none⟩) e
  exact ⟨(hc 0).trans h.c0, (hc 1).trans h.c1, (hf 0).trans h.f0, (hf 1).trans h.f1⟩
end Go.Proofs.YthlfahblnpijaaaDoor.So
