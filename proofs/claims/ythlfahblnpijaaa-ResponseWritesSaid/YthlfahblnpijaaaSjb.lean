/- Proves what the law's copies returns: a response of equal parts in new memory that may be written. Conditions: bounds of a form of numbers. -/
import Derived.Test.YthlfahblnpijaaaSo
import Derived.Deep.Cut
namespace Go.Proofs.Ythlfahblnpijaaa.Sjb
open Go.RowKit Vm Ap Vw Va Gc Mi Mb Qm Sm Se So

theorem imL_cons (x : Im) (r : List Im) : imL (x :: r) = .int .i64 x.i.mark :: .slice x.A x.i.value.length x.k :: .int .u64 (x.i.version : Int) :: .int .u64 (x.i.dead : Int) :: imL r := by
  unfold imL; rw [List.flatMap_cons]; rfl
theorem imL_set1 : ∀ (l : List Im) (k : Nat) (hk : k < l.length) (A : Option Addr) (c : Nat), (imL l).set (k * 4 + 1) (.slice A l[k].i.value.length c) = imL (l.set k ⟨l[k].i, A, c⟩)
  | [], k, h, _, _ => by simp at h
  | x :: r, 0, _, A, c => by rw [List.set_cons_zero, imL_cons, imL_cons]; rfl
  | x :: r, k + 1, h, A, c => by
    have ih := imL_set1 r k (by simpa using h) A c
    rw [List.set_cons_succ, imL_cons, imL_cons, show (k + 1) * 4 + 1 = (k * 4 + 1) + 1 + 1 + 1 + 1 from by omega, List.set_cons_succ, List.set_cons_succ, List.set_cons_succ, List.set_cons_succ]
    simp only [List.getElem_cons_succ]
    rw [ih]
theorem ri_cell {w : World} {b q : Nat} {l : List Im} (hc : ∀ j (h : j < l.length), w.cell? ⟨b, q + j * 4, none⟩ = some (.int .i64 l[j].i.mark) ∧ w.cell? ⟨b, q + j * 4 + 1, none⟩ = some (.slice l[j].A l[j].i.value.length l[j].k) ∧ w.cell? ⟨b, q + j * 4 + 2, none⟩ = some (.int .u64 (l[j].i.version : Int)) ∧ w.cell? ⟨b, q + j * 4 + 3, none⟩ = some (.int .u64 (l[j].i.dead : Int)))
    (j : Nat) (u : Value) (hu : (imL l)[j]? = some u) : w.cell? ⟨b, q + j, none⟩ = some u := by
  have hlt : j < l.length * 4 := by rw [← imL_len]; exact (List.getElem?_eq_some_iff.1 hu).1
  obtain ⟨k, r, hr, rfl⟩ : ∃ k r, r < 4 ∧ j = k * 4 + r := ⟨j / 4, j % 4, by omega, by omega⟩
  have hk : k < l.length := by omega
  obtain ⟨e0, e1, e2, e3⟩ := imL_get l k hk
  obtain ⟨c0, c1, c2, c3⟩ := hc k hk
  have : r = 0 ∨ r = 1 ∨ r = 2 ∨ r = 3 := by omega
  rcases this with rfl | rfl | rfl | rfl
  · exact c0.trans (e0.symm.trans hu)
  · exact c1.trans (e1.symm.trans hu)
  · exact c2.trans (e2.symm.trans hu)
  · exact c3.trans (e3.symm.trans hu)
theorem items_one (l : List Im) : ∀ u ∈ imL l, u.oneCell' = true := by
  intro u hu
  unfold imL at hu
  obtain ⟨y, _, hy⟩ := List.mem_flatMap.1 hu
  unfold imC at hy
  simp at hy
  rcases hy with rfl | rfl | rfl | rfl <;> rfl
theorem src_ri {w : World} {A : Option Addr} {l : List Im} {c n : Nat} (hn : l.length = n) (h : RI w A l) (hA : A = none → c = 0) : Src Try.prog 4 24 (.slice A n c) n (imL l) w := by
  subst hn
  cases A with
  | none =>
    have h0 : l = [] := by
      rcases Nat.eq_zero_or_pos l.length with h0 | h0
      · exact List.eq_nil_of_length_eq_zero h0
      · obtain ⟨_, _, e, _⟩ := h h0; cases e
    subst h0
    rw [hA rfl]
    exact Src.ofNil w Try.underlying24 0
  | some a =>
    refine Src.ofSlice w Try.underlying24 a l.length c (imL l) (by rw [imL_len]) (fun j u hu => ?_) (items_one l)
    have hlt : j < l.length * 4 := by rw [← imL_len]; exact (List.getElem?_eq_some_iff.1 hu).1
    obtain ⟨b, q, e, _, hc⟩ := h (by omega)
    have e' : a = ⟨b, q, none⟩ := by injection e
    subst e'
    rw [Vw.add_plain]
    exact ri_cell hc j u hu
theorem src_rn {w : World} {A : Option Addr} {l : List Nat} {c n : Nat} (hn : l.length = n) (h : RN w A l) (hA : A = none → c = 0) : Src Try.prog 1 26 (.slice A n c) n (l.map numV) w := by
  subst hn
  cases A with
  | none =>
    have h0 : l = [] := by
      rcases Nat.eq_zero_or_pos l.length with h0 | h0
      · exact List.eq_nil_of_length_eq_zero h0
      · obtain ⟨_, _, e, _⟩ := h h0; cases e
    subst h0
    rw [hA rfl]
    exact Src.ofNil w Try.underlying26 0
  | some a =>
    refine Src.ofSlice w Try.underlying26 a l.length c (l.map numV) (by simp) (fun j u hu => ?_) (by intro u hu; obtain ⟨y, _, rfl⟩ := List.mem_map.1 hu; rfl)
    rw [List.getElem?_map] at hu
    cases hj : l[j]? with
    | none => rw [hj] at hu; cases hu
    | some y =>
      rw [hj] at hu
      obtain ⟨hj1, hj2⟩ := List.getElem?_eq_some_iff.1 hj
      obtain ⟨b, q, e, _, hc⟩ := h (by omega)
      have e' : a = ⟨b, q, none⟩ := by injection e
      subst e'
      rw [Vw.add_plain, hc j hj1, hj2]
      simpa [numV] using hu

theorem wpList_items0 {ops : Array Oper} {rest : List Oper} {o : Oper} {a : Act} {Q : Exit → Act → World → Prop} {w : World} (hgd : o.guard = none) (s x : Operand)
    (ho : o.op = .call { callee := .builtin .append, args := #[s, x], argTypes := #[24, 24] })
    (hs : a.eval s = .slice none 0 0) (l : List Im) (A : Option Addr) (c n : Nat) (hn : l.length = n) (hx : a.eval x = .slice A n c) (hr : RI w A l) (hA : A = none → c = 0) (hl : n ≤ 10000000)
    (hh : ∀ A' c' w', Hid (Mine w.heap.size 4 w' A' n c' (imL l)) → Hid (Below w.heap.size w w') → wpList Try.prog ops Q rest (a.put o.dst (.slice A' n c')) w') :
    wpList Try.prog ops Q (o :: rest) a w := by
  refine wpList_mine hgd s x elmI _ ho hs (Mine.nil w.heap.size 4 w) _ hx n _ (src_ri hn hr hA) (by omega) (by omega) (Nat.le_refl _) (fun A' c' w' m1 g1 _ => ?_)
  rw [Nat.zero_add] at m1 ⊢
  rw [List.nil_append] at m1
  exact hh A' c' w' (Lib.hid m1) (Lib.hid (below_of_grown g1 (Nat.le_refl _) (fun k e => by cases e)))
theorem wpList_nums0 {ops : Array Oper} {rest : List Oper} {o : Oper} {a : Act} {Q : Exit → Act → World → Prop} {w : World} (hgd : o.guard = none) (s x : Operand)
    (ho : o.op = .call { callee := .builtin .append, args := #[s, x], argTypes := #[26, 26] })
    (hs : a.eval s = .slice none 0 0) (l : List Nat) (A : Option Addr) (c n : Nat) (hn : l.length = n) (hx : a.eval x = .slice A n c) (hr : RN w A l) (hA : A = none → c = 0) (hl : n ≤ 10000000)
    (hh : ∀ A' c' w', Hid (Mine w.heap.size 1 w' A' n c' (l.map numV)) → Hid (Below w.heap.size w w') → wpList Try.prog ops Q rest (a.put o.dst (.slice A' n c')) w') :
    wpList Try.prog ops Q (o :: rest) a w := by
  refine wpList_mine hgd s x elmN _ ho hs (Mine.nil w.heap.size 1 w) _ hx n _ (src_rn hn hr hA) (by omega) (by omega) (Nat.le_refl _) (fun A' c' w' m1 g1 _ => ?_)
  rw [Nat.zero_add] at m1 ⊢
  rw [List.nil_append] at m1
  exact hh A' c' w' (Lib.hid m1) (Lib.hid (below_of_grown g1 (Nat.le_refl _) (fun k e => by cases e)))
theorem wpList_bytes0 {ops : Array Oper} {rest : List Oper} {o : Oper} {a : Act} {Q : Exit → Act → World → Prop} {w : World} (hgd : o.guard = none) (s x : Operand)
    (ho : o.op = .call { callee := .builtin .append, args := #[s, x], argTypes := #[36, 36] })
    (hs : a.eval s = .slice none 0 0) (l : Bs) (A : Option Addr) (c n : Nat) (hn : l.length = n) (hx : a.eval x = .slice A n c) (hr : Rb w A l) (hA : A = none → c = 0) (hl : n ≤ 10000000)
    (hh : ∀ A' c' w', Hid (Mine w.heap.size 1 w' A' n c' (l.map byteV)) → Hid (Below w.heap.size w w') → wpList Try.prog ops Q rest (a.put o.dst (.slice A' n c')) w') :
    wpList Try.prog ops Q (o :: rest) a w := by
  refine wpList_mine hgd s x elmB _ ho hs (Mine.nil w.heap.size 1 w) _ hx n _ (src_at hn hr hA) (by omega) (by omega) (Nat.le_refl _) (fun A' c' w' m1 g1 _ => ?_)
  rw [Nat.zero_add] at m1 ⊢
  rw [List.nil_append] at m1
  exact hh A' c' w' (Lib.hid m1) (Lib.hid (below_of_grown g1 (Nat.le_refl _) (fun k e => by cases e)))

/-- Items of which the first k have got values of their own. -/
structure CpI (K : Nat) (w : World) (IA : Option Addr) (ik : Nat) (xs ys : List Im) (k : Nat) : Prop where
  len : ys.length = xs.length
  mi : Mine K 4 w IA xs.length ik (imL ys)
  same : ∀ j (h : j < ys.length) (h' : j < xs.length), ys[j].i = xs[j].i
  done : ∀ j (h : j < ys.length), j < k → MineB K w ys[j].A ys[j].i.value ys[j].k ∧ ∀ a, ys[j].A = some a → ∀ b, IA = some b → a.block ≠ b.block
  rest : ∀ j (h : j < ys.length) (h' : j < xs.length), k ≤ j → ys[j] = xs[j]
theorem CpI.start {K : Nat} {w : World} {IA : Option Addr} {ik : Nat} {xs : List Im} (h : Mine K 4 w IA xs.length ik (imL xs)) : CpI K w IA ik xs xs 0 :=
  ⟨rfl, h, fun _ _ _ => rfl, fun j _ hj => by omega, fun _ _ _ _ => rfl⟩
theorem CpI.step {K : Nat} {w w2 : World} {g q ik k : Nat} {xs ys : List Im} (h : CpI K w (some ⟨g, q, none⟩) ik xs ys k) (hk : k < xs.length) (hK : K ≤ w.heap.size)
    (hb : Below w.heap.size w w2) {V : Option Addr} {vc : Nat} (hm : MineB w.heap.size w2 V xs[k].i.value vc) :
    CpI K (w2.setCell ⟨g, q + k * 4 + 1, none⟩ (.slice V xs[k].i.value.length vc)) (some ⟨g, q, none⟩) ik xs (ys.set k ⟨xs[k].i, V, vc⟩) (k + 1) := by
  have hlen := h.len
  have hky : k < ys.length := by omega
  have hi : ys[k].i = xs[k].i := h.same k hky hk
  have hgl := (h.mi.base rfl).2.1
  have m2 := h.mi.below hb (Nat.le_refl _)
  have m3 := m2.store (k * 4 + 1) (by rw [imL_len]; omega) (.slice V xs[k].i.value.length vc)
  have e3 := imL_set1 ys k hky V vc
  rw [hi] at e3
  rw [e3, show q + (k * 4 + 1) = q + k * 4 + 1 from by omega] at m3
  have ho : Only (fun j => j = g) w2 (w2.setCell ⟨g, q + k * 4 + 1, none⟩ (.slice V xs[k].i.value.length vc)) := (Only.refl (fun j => j = g) w2).put (ad := ⟨g, q + k * 4 + 1, none⟩) rfl _
  refine ⟨by rw [List.length_set]; exact hlen, m3, fun j h1 h2 => ?_, fun j h1 h2 => ?_, fun j h1 h2 h3 => ?_⟩
  · rw [List.getElem_set]
    split
    · rename_i e; subst e; rfl
    · exact h.same j (by rw [List.length_set] at h1; exact h1) h2
  · have h1' : j < ys.length := by rw [List.length_set] at h1; exact h1
    by_cases e : k = j
    · subst e
      rw [List.getElem_set_self]
      refine ⟨(hm.only ho (fun a ha e => ?_)).mono hK, fun a ha b hb => ?_⟩
      · have := (hm.base ha).1; have : g < w.heap.size := hgl; omega
      · injection hb with hb; subst hb
        have := (hm.base ha).1; have : g < w.heap.size := hgl; show a.block ≠ g; omega
    · rw [List.getElem_set_ne e]
      obtain ⟨d1, d2⟩ := h.done j h1' (by omega)
      exact ⟨(d1.below hb (Nat.le_refl _)).only ho (fun a ha e => d2 a ha _ rfl e), d2⟩
  · rw [List.getElem_set_ne (by omega)]
    exact h.rest j (by rw [List.length_set] at h1; exact h1) h2 (by omega)
theorem CpI.map {K : Nat} {w : World} {IA : Option Addr} {ik k : Nat} {xs ys : List Im} (h : CpI K w IA ik xs ys k) : ys.map (·.i) = xs.map (·.i) := by
  refine List.ext_getElem (by simpa using h.len) fun j g1 g2 => ?_
  simp only [List.getElem_map]
  exact h.same j (by simpa using g1) (by simpa using g2)
theorem CpI.below {K B : Nat} {w w' : World} {IA : Option Addr} {ik k : Nat} {xs ys : List Im} (h : CpI K w IA ik xs ys k) (hb : Below B w w') (hB : w.heap.size ≤ B) : CpI K w' IA ik xs ys k :=
  ⟨h.len, h.mi.below hb hB, h.same, fun j hj hk => ⟨(h.done j hj hk).1.below hb hB, (h.done j hj hk).2⟩, h.rest⟩
theorem CpI.at_ {K : Nat} {w : World} {IA : Option Addr} {ik k : Nat} {xs ys : List Im} (h : CpI K w IA ik xs ys k) (hk : k < xs.length) :
    ∃ g q, IA = some ⟨g, q, none⟩ ∧ K ≤ g ∧ g < w.heap.size ∧ w.cell? ⟨g, q + k * 4 + 1, none⟩ = some (.slice xs[k].A xs[k].i.value.length xs[k].k) := by
  cases IA with
  | none => have := h.mi.non rfl; have := h.mi.le; omega
  | some a =>
    obtain ⟨g, q, rfl, h1, h2, _, _⟩ := h.mi.lies a rfl
    have hky : k < ys.length := by have := h.len; omega
    have hm := h.mi
    rw [← h.len] at hm
    obtain ⟨b, o, e, _, hc⟩ := (ri_mine hm) (by omega)
    have e' : (⟨g, q, none⟩ : Addr) = ⟨b, o, none⟩ := by injection e
    injection e' with e1 e2
    subst e1; subst e2
    have := (hc k hky).2.1
    rw [h.rest k hky hk (Nat.le_refl _)] at this
    exact ⟨g, q, rfl, h1, h2, this⟩
/-- A response in memory of its own. -/
structure CpS (K : Nat) (w : World) (y : Res) : Prop where
  mi : Mine K 4 w y.IA y.items.length y.ik (imL y.items)
  mv : ∀ z ∈ y.items, MineB K w z.A z.i.value z.k ∧ ∀ a, z.A = some a → (∀ b, y.IA = some b → a.block ≠ b.block) ∧ (∀ b, y.NA = some b → a.block ≠ b.block)
  mn : NuO K w y.NA y.nk y.numbers
  ne : ∀ a b, y.IA = some a → y.NA = some b → a.block ≠ b.block
theorem CpS.rc {K : Nat} {w : World} {y : Res} (h : CpS K w y) : RRc w y :=
  ⟨ri_mine h.mi, h.mi.non, fun z hz => rb_mine (h.mv z hz).1, fun z hz => (h.mv z hz).1.non, rn_mine h.mn, Mine.non h.mn⟩
theorem CpS.below {K B : Nat} {w w' : World} {y : Res} (h : CpS K w y) (hb : Below B w w') (hB : w.heap.size ≤ B) : CpS K w' y :=
  ⟨h.mi.below hb hB, fun z hz => ⟨(h.mv z hz).1.below hb hB, (h.mv z hz).2⟩, Mine.below h.mn hb hB, h.ne⟩
def copyPost (w : World) (x : Res) : Ending → World → Prop := fun e w' => ∃ y, e = .returned (resV y) ∧ y.r = x.r ∧ y.items.length = x.items.length ∧ CpS w.heap.size w' y ∧ Below w.heap.size w w'
theorem box_lists {w : World} {g : Nat} {x : Res} (h : BoxS w g x) (IA : Option Addr) (ys : List Im) (ik n : Nat) (hn : ys.length = n) (NA : Option Addr) (ns : List Nat) (nk m : Nat) (hm : ns.length = m) :
    BoxS ((w.setCell ⟨g, 2, none⟩ (.slice IA n ik)).setCell ⟨g, 5, none⟩ (.slice NA m nk)) g { x with items := ys, IA := IA, ik := ik, numbers := ns, NA := NA, nk := nk } := by
  obtain ⟨h0, h1, h2, h3, h4, h5, hu⟩ := h
  subst hn; subst hm
  refine ⟨?_, ?_, ?_, ?_, ?_, ?_, fun j => ?_⟩
  all_goals simp [go_sem, h0, h1, h2, h3, h4, h5, hu]
set_option maxRecDepth 100000 in
set_option maxHeartbeats 8000000 in
theorem copies_any (x : Res) (w : World) (hr : RRc w x) (hb : BndS x) :
    Calls Try.prog 13 #[resV x] w (copyPost w x) := by
  obtain ⟨C, hC⟩ : ∃ C, C = w.heap.size := ⟨_, rfl⟩
  obtain ⟨w0, hw0⟩ : ∃ w0, w0 = (w.alloc (resO x)).alloc (resO (startS 0 0)) := ⟨_, rfl⟩
  have B0 : Below C w w0 := by rw [hw0, hC]; exact two_below w _ _
  have BX0 : BoxS w0 C x := by rw [hw0, hC]; exact (BoxS.new w x).below (alloc_below _ _) (Nat.le_refl _)
  have BZ0 : BoxS w0 (C + 1) (startS 0 0) := by
    have hb := BoxS.new (w.alloc (resO x)) (startS 0 0)
    have e : (w.alloc (resO x)).heap.size = w.heap.size + 1 := by simp
    rw [e] at hb
    rw [hw0, hC]; exact hb
  have hs0 : w0.heap.size = C + 2 := by rw [hw0, hC]; simp
  have e0 : resO (startS 0 0) = .cells #[.int .i64 0, .int .i64 0, .slice none 0 0, .int .u64 0, .int .i64 0, .slice none 0 0] 28 := rfl
  have HB0 := Lib.hid B0
  have HRW : Hid (∀ W, Below C w W → RRc W x) := fun W h => by rw [hC] at h; exact hr.below h (Nat.le_refl _)
  have HD := Lib.hid hb
  have HXW := Lib.hid (fun W (h : Below w0.heap.size w0 W) => BX0.below h (Nat.le_refl _))
  have HZW := Lib.hid (fun W (h : Below w0.heap.size w0 W) => BZ0.below h (Nat.le_refl _))
  have HBW := Lib.hid (fun W (h : Below w0.heap.size w0 W) => B0.trans (h.mono (by omega : C ≤ w0.heap.size)))
  unfold resV
  rw [e0] at hw0
  unfold resO at hw0
  clear e0 B0 BZ0 hr hb
  obtain ⟨c0, c1, c2, c3, c4, c5, _⟩ := BX0
  go_enter Try.func13, Try.ntmps13
  go_upto_region 1 with fail
  rw [← hw0, ← hC]
  have HC := Lib.hid hC
  clear hw0 hC
  have z1 : x.items.length ≤ 1000 := HD.out.items
  have z2 : x.numbers.length ≤ 1000 := HD.out.numbers
  have hs0' : C + 2 ≤ w0.heap.size := by omega
  clear hs0
  go_wp2_with (at_builtin; (refine wpList_items0 rfl _ _ rfl rfl x.items x.IA x.ik _ rfl rfl (HRW.out _ HB0.out).ri (HRW.out _ HB0.out).ni (by omega) ?_))
  intro IA ik w1 HM1 HB1
  have HCP : Hid (CpI w0.heap.size w1 IA ik x.items x.items 0) := CpI.start HM1.out
  clear c0 c1 c2 c3 c4 c5 HM1
  obtain ⟨_, _, c2, _, _, _, _⟩ := HXW.out w1 HB1.out
  go_wp2_with fail
  go_loopw [4, 10] (fun _ i wr => ∃ (k : Nat) (ys : List Im), k ≤ x.items.length ∧ i = .int .i64 (k : Int) ∧ CpI w0.heap.size wr IA ik x.items ys k ∧ Below w0.heap.size w0 wr) (fun _ i _ => x.items.length - (intOf i).toNat)
  case atStart => exact ⟨0, x.items, Nat.zero_le _, rfl, HCP.out, HB1.out⟩
  case round =>
    obtain ⟨k, ys, hkl, rfl, hcp, hbw⟩ := hrel
    obtain ⟨wo, rfl⟩ : ∃ wo : World, wo = wr := ⟨_, rfl⟩
    have HP := Lib.hid hcp
    have HW := Lib.hid hbw
    have hszo := hbw.size
    clear hcp hbw HCP
    by_cases hlt : k < x.items.length
    · have i1 : (k : Int) < x.items.length := by omega
      obtain ⟨g, q, hA, hg1, hg2, x1⟩ := HP.out.at_ hlt
      subst hA
      have HVR := Lib.hid (((HRW.out _ (HBW.out _ HW.out)).rv _ (List.getElem_mem hlt)))
      have HVN := Lib.hid ((HRW.out _ (HBW.out _ HW.out)).nv _ (List.getElem_mem hlt))
      have hbnd := (HD.out.each _ (List.getElem_mem hlt)).2.1
      have HST := Lib.hid (fun w2 V vc (hb : Below wo.heap.size wo w2) (hm : MineB wo.heap.size w2 V x.items[k].i.value vc) => HP.out.step hlt hszo hb hm)
      obtain ⟨y, hy⟩ : ∃ y, y = x.items[k] := ⟨_, rfl⟩
      rw [← hy] at x1 HVR HVN hbnd
      have HY := Lib.hid hy
      clear hy
      go_wp2_with (at_builtin; (refine wpList_bytes0 rfl _ _ rfl rfl y.i.value y.A y.k _ rfl rfl HVR.out HVN.out (by omega) ?_))
      intro V vc w2 HM2 HB2
      have hf : w2.frozen? ⟨g, q + k * 4 + 1, none⟩ = false := by
        obtain ⟨g', q', e, _, _, h3, _⟩ := (HP.out.mi.below HB2.out (Nat.le_refl _)).lies _ rfl
        injection e with e1 e2
        subst e1; subst e2
        have := (h3 (k * 4 + 1) (by have := HP.out.mi.le; omega)).2
        rw [show q + (k * 4 + 1) = q + k * 4 + 1 from by omega] at this
        exact this
      have x2 : w2.cell? ⟨g, q + k * 4 + 1, none⟩ = some (.slice y.A y.i.value.length y.k) := by rw [HB2.out.cell hg2]; exact x1
      clear x1
      go_wp2_with fail
      go_roundw
      case rel =>
        refine ⟨k + 1, ys.set k ⟨x.items[k].i, V, vc⟩, by omega, by go_num, ?_, (HW.out.trans (HB2.out.mono hszo)).setCell hg1 _⟩
        rw [HY.out]
        exact HST.out w2 V vc HB2.out (by rw [← HY.out]; exact HM2.out)
      case measure => simp [intOf]; omega
    · obtain rfl : k = x.items.length := by omega
      have hnn : ¬ (x.items.length : Int) < x.items.length := by omega
      clear c2
      obtain ⟨c0, c1, c2, c3, c4, c5, _⟩ := HXW.out wo HW.out
      have HBo := Lib.hid (HBW.out wo HW.out)
      go_wp2_with (at_builtin; (refine wpList_nums0 rfl _ _ rfl rfl x.numbers x.NA x.nk _ rfl rfl (HRW.out _ HBo.out).rn (HRW.out _ HBo.out).nn (by omega) ?_))
      intro NA nk w2 HM2 HB2
      have HW2 := Lib.hid (HW.out.trans (HB2.out.mono hszo))
      have HP2 := Lib.hid (HP.out.below HB2.out (Nat.le_refl _))
      have hsz2 := HW2.out.size
      clear c0 c1 c2 c3 c4 c5
      obtain ⟨c0, c1, c2, c3, c4, c5, cu⟩ := HXW.out w2 HW2.out
      have f2 := cu 2
      have f5 := cu 5
      have hcs : C + 2 ≤ w0.heap.size := hs0'
      go_upto_region 8 with fail
      obtain ⟨w3, hw3⟩ : ∃ w3, w3 = (w2.setCell ⟨C, 2, none⟩ (.slice IA x.items.length ik)).setCell ⟨C, 5, none⟩ (.slice NA x.numbers.length nk) := ⟨_, rfl⟩
      have HX3 : Hid (BoxS w3 C { x with items := ys, IA := IA, ik := ik, NA := NA, nk := nk }) := by
        show BoxS _ _ _
        rw [hw3]
        exact box_lists (HXW.out w2 HW2.out) IA ys ik _ HP.out.len NA x.numbers nk _ rfl
      have O3 : Hid (Only (fun j => j = C) w2 w3) := by
        show Only _ _ _
        rw [hw3]
        exact ((Only.refl (fun j => j = C) w2).put (ad := ⟨C, 2, none⟩) rfl _).put (ad := ⟨C, 5, none⟩) rfl _
      have HZ3 := Lib.hid ((HZW.out w2 HW2.out).only O3.out (by omega))
      rw [← hw3]
      clear hw3 c0 c1 c2 c3 c4 c5 cu f2 f5
      obtain ⟨c0, c1, c2, c3, c4, c5, _⟩ := HX3.out
      obtain ⟨_, _, _, _, _, _, zu⟩ := HZ3.out
      obtain ⟨d0, d1, d2, d3, d4, d5, _⟩ := HZ3.out
      have zu0 := zu 0; have zu1 := zu 1; have zu2 := zu 2; have zu3 := zu 3; have zu4 := zu 4; have zu5 := zu 5
      have hyl := HP.out.len
      dsimp only at c0 c1 c2 c3 c4 c5
      rw [hyl] at c2
      have HM2' := HM2.out
      have hcs' := HC.out
      have hK : w.heap.size ≤ w0.heap.size := by omega
      have HF := put6 w3 (C + 1) (.int .i64 x.op) (.int .i64 x.err) (.slice IA x.items.length ik) (.int .u64 (x.version : Int)) (.int .i64 x.count) (.slice NA x.numbers.length nk)
      have HY3 : Hid (CpS w.heap.size ((((((w3.setCell ⟨C + 1, 0, none⟩ (.int .i64 x.op)).setCell ⟨C + 1, 1, none⟩ (.int .i64 x.err)).setCell ⟨C + 1, 2, none⟩ (.slice IA x.items.length ik)).setCell ⟨C + 1, 3, none⟩ (.int .u64 (x.version : Int))).setCell ⟨C + 1, 4, none⟩ (.int .i64 x.count)).setCell ⟨C + 1, 5, none⟩ (.slice NA x.numbers.length nk)) { x with items := ys, IA := IA, ik := ik, NA := NA, nk := nk }) := by
        have hmi := HP2.out.mi
        rw [← hyl] at hmi
        have o3 := O3.out
        refine ⟨(hmi.only o3 (fun a ha e => ?_)).mono hK |>.only HF (fun a ha e => ?_), fun z hz => ?_, ((HM2'.mono (by omega : w0.heap.size ≤ wo.heap.size)).only o3 (fun a ha e => ?_)).mono hK |>.only HF (fun a ha e => ?_), fun a b ha hb => ?_⟩
        · have := (hmi.base ha).1; omega
        · have := (hmi.base ha).1; omega
        · obtain ⟨j, hj, rfl⟩ := List.getElem_of_mem hz
          have hj' : j < ys.length := hj
          obtain ⟨d1, d2⟩ := HP2.out.done j hj' (by omega)
          obtain ⟨e1, e2⟩ := HP.out.done j hj' (by omega)
          refine ⟨((d1.only o3 (fun a ha e => ?_)).mono hK).only HF (fun a ha e => ?_), fun a ha => ⟨d2 a ha, fun b hb => ?_⟩⟩
          · have := (d1.base ha).1; omega
          · have := (d1.base ha).1; omega
          · have h1 := (e1.base ha).2.1; have h2 := (HM2'.base hb).1; omega
        · have := (HM2'.base ha).1; omega
        · have := (HM2'.base ha).1; omega
        · have h1 := (HP.out.mi.base ha).2.1; have h2 := (HM2'.base hb).1; omega
      have HFB : Hid (Below w.heap.size w ((((((w3.setCell ⟨C + 1, 0, none⟩ (.int .i64 x.op)).setCell ⟨C + 1, 1, none⟩ (.int .i64 x.err)).setCell ⟨C + 1, 2, none⟩ (.slice IA x.items.length ik)).setCell ⟨C + 1, 3, none⟩ (.int .u64 (x.version : Int))).setCell ⟨C + 1, 4, none⟩ (.int .i64 x.count)).setCell ⟨C + 1, 5, none⟩ (.slice NA x.numbers.length nk))) := by
        have h1 := HBW.out w2 HW2.out
        have hz := h1.size
        rw [hcs'] at h1
        exact (h1.trans (O3.out.below (B := w.heap.size) (fun j e => by omega) (by omega))).trans (HF.below (B := w.heap.size) (fun j e => by omega) (by have := O3.out.size; omega))
      have HYR : Hid ((({ x with items := ys, IA := IA, ik := ik, NA := NA, nk := nk } : Res)).r = x.r) := by
        show _ = _
        unfold Res.r
        show Rsp.mk x.op x.err (ys.map (·.i)) x.version x.count x.numbers = _
        rw [HP.out.map]
      have HYL := Lib.hid hyl
      clear HF HM2' hcs' hyl hK
      go_wp2_with fail
      refine bodyPost_ret (v := .agg #[.int .i64 x.op, .int .i64 x.err, .slice IA x.items.length ik, .int .u64 (x.version : Int), .int .i64 x.count, .slice NA x.numbers.length nk]) (by simp [results, Try.results13, go_sem, d0, d1, d2, d3, d4, d5]) rfl ⟨_, ?_, HYR.out, HYL.out, HY3.out, HFB.out⟩
      unfold resV
      dsimp only
      rw [HYL.out]
end Go.Proofs.Ythlfahblnpijaaa.Sjb
