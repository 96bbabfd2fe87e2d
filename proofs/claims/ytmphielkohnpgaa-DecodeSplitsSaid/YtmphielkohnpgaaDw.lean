/- Proves what the function that takes from a decoder into two lists does: it takes one thing, or says that nothing comes. Conditions: few bytes. -/
import Derived.Test.YtmphielkohnpgaaDv
import Derived.Test.YtmphielkohnpgaaRg
namespace Go.Proofs.Ytmphielkohnpgaa.Dw
open Go.RowKit Vm Ap Vw Va Gc Fm Fw Mi Mb Fr Dm Dd Dn De Dh Dl Fo Da Df Dv Rg

/-- The blocks of the two rows. -/
def RowsOf (FA EA : Option Addr) : Nat → Prop := fun j => (∃ a, FA = some a ∧ a.block = j) ∨ ∃ a, EA = some a ∧ a.block = j
theorem Tk.push {N : Nat} {W w v : World} {F : Nat → Prop} {g q9 q11 q12 : Nat} {m : Int} {s : St} {FA : Option Addr} {fc : Nat} {EA : Option Addr} {ec : Nat} {fs : List Frm} {es : List Nat} (h : Tk N W w F g q9 q11 q12 m s FA fc EA ec fs es)
    (ho : Only (RowsOf FA EA) w v) {A3 E3 : Option Addr} {c3 e3 : Nat} {x : Frm} {er : Nat} (hO : Outs N v A3 c3 E3 e3 (fs ++ [x]) (es ++ [er])) (dA : A3 = FA ∨ ∀ a, A3 = some a → w.heap.size ≤ a.block) (dE : E3 = EA ∨ ∀ a, E3 = some a → w.heap.size ≤ a.block)
    (hx : ∀ a, x.A = some a → ¬ F a.block ∧ a.block ≠ q9 ∧ a.block ≠ q11 ∧ a.block ≠ q12) :
    Tk N W ((v.setCell ⟨q11, 0, none⟩ (.slice A3 (fs.length + 1) c3)).setCell ⟨q12, 0, none⟩ (.slice E3 (es.length + 1) e3)) F g q9 q11 q12 m s A3 c3 E3 e3 (fs ++ [x]) (es ++ [er]) := by
  obtain ⟨l1, l2, l3⟩ := h.lt
  obtain ⟨h1, h2, h3, h4, h5, h6⟩ := h.ql
  have hz := ho.size
  have foot : ∀ j, RowsOf FA EA j → ¬ F j ∧ j ≠ q9 ∧ j ≠ q11 ∧ j ≠ q12 := fun j hj => h.of j (by
    rcases hj with hj | hj
    · exact Or.inl hj
    · exact Or.inr (Or.inl hj))
  have g11 : ¬ RowsOf FA EA q11 := fun hj => (foot _ hj).2.2.1 rfl
  have g12 : ¬ RowsOf FA EA q12 := fun hj => (foot _ hj).2.2.2 rfl
  have g9 : ¬ RowsOf FA EA q9 := fun hj => (foot _ hj).2.1 rfl
  have new : ∀ j, Foot A3 E3 (fs ++ [x]) j → ¬ F j ∧ j ≠ q9 ∧ j ≠ q11 ∧ j ≠ q12 := fun j hj => by
    have fresh : w.heap.size ≤ j → ¬ F j ∧ j ≠ q9 ∧ j ≠ q11 ∧ j ≠ q12 := fun hj => ⟨fun hf => by have := (h.fl j hf).2.1; omega, by omega, by omega, by omega⟩
    rcases hj with ⟨a, ha, rfl⟩ | ⟨a, ha, rfl⟩ | ⟨y, hy, a, ha, rfl⟩
    · rcases dA with e | e
      · exact h.of _ (Or.inl ⟨a, by rw [← e]; exact ha, rfl⟩)
      · exact fresh (e a ha)
    · rcases dE with e | e
      · exact h.of _ (Or.inr (Or.inl ⟨a, by rw [← e]; exact ha, rfl⟩))
      · exact fresh (e a ha)
    · rcases List.mem_append.1 hy with hy | hy
      · exact h.of _ (Or.inr (Or.inr ⟨y, hy, a, ha, rfl⟩))
      · rw [List.mem_singleton.1 hy] at ha; exact hx a ha
  have hset : Only (fun j => j = q11 ∨ j = q12) v ((v.setCell ⟨q11, 0, none⟩ (.slice A3 (fs.length + 1) c3)).setCell ⟨q12, 0, none⟩ (.slice E3 (es.length + 1) e3)) :=
    ((Only.refl (fun j => j = q11 ∨ j = q12) v).put (ad := ⟨q11, 0, none⟩) (Or.inl rfl) _).put (ad := ⟨q12, 0, none⟩) (Or.inr rfl) _
  have c11 : v.cell? ⟨q11, 0, none⟩ = _ := (ho.cell (a := ⟨q11, 0, none⟩) l2 g11).trans h.c11
  have c12 : v.cell? ⟨q12, 0, none⟩ = _ := (ho.cell (a := ⟨q12, 0, none⟩) l3 g12).trans h.c12
  have l2' : q11 < v.heap.size := by omega
  have l3' : q12 < v.heap.size := by omega
  refine ⟨(h.dec.only ho (fun j hf hg => (foot j hg).1 hf)).only hset (fun j hf hg => ?_), ?_, ?_, ?_, ?_, ?_, outs_kept hO hset (fun j hj hg => ?_), fun j hf => ⟨(h.fl j hf).1, ?_, (h.fl j hf).2.2⟩, new, h.ql, (h.bel.trans (ho.below (fun j hg => ?_) h.nN)).trans (hset.below (fun j hg => ?_) (by have := h.nN; omega)), ?_⟩
  · have := (h.fl j hf).2.2
    rcases hg with hg | hg
    · exact this.2.1 hg
    · exact this.2.2 hg
  · rw [hset.cell (a := ⟨q9, 0, none⟩) (by show q9 < _; omega) (fun hg => by rcases hg with hg | hg; exact h4 hg; exact h5 hg), ho.cell (a := ⟨q9, 0, none⟩) l1 g9]; exact h.c9
  · rw [World.cell?_setCell_other _ _ _ _ (by intro e; injection e with e; exact h6 e.symm), World.cell?_setCell_same _ _ _ c11, List.length_append]; rfl
  · have c12' : (v.setCell ⟨q11, 0, none⟩ (.slice A3 (fs.length + 1) c3)).cell? ⟨q12, 0, none⟩ = some (.slice EA es.length ec) := by
      rw [World.cell?_setCell_other _ _ _ _ (by intro e; injection e with e; exact h6 e)]; exact c12
    rw [World.cell?_setCell_same _ _ _ c12', List.length_append]; rfl
  · rw [World.frozen?_setCell, World.frozen?_setCell, ho.frozen (a := ⟨q11, 0, none⟩) l2 g11]; exact h.f11
  · rw [World.frozen?_setCell, World.frozen?_setCell, ho.frozen (a := ⟨q12, 0, none⟩) l3 g12]; exact h.f12
  · have := new j hj
    rcases hg with hg | hg
    · exact this.2.2.1 hg
    · exact this.2.2.2 hg
  · have := (h.fl j hf).2.1
    simp; omega
  · rcases hg with ⟨a, ha, rfl⟩ | ⟨a, ha, rfl⟩
    · exact (h.outs.mf.base ha).1
    · exact (h.outs.me.base ha).1
  · rcases hg with rfl | rfl
    · exact h2
    · exact h3
  · have := h.nN
    simp; omega
/-- What the function leaves. -/
def takePost (N : Nat) (W : World) (g q9 q11 q12 : Nat) (m : Int) (s : St) (FA : Option Addr) (fc : Nat) (EA : Option Addr) (ec : Nat) (fs : List Frm) (es : List Nat) : Ending → World → Prop := fun e w' =>
  (((nxG m s).2.2 = 4 ∨ (nxG m s).2.2 = 14) ∧ e = .returned (.bool false) ∧ ∃ F', Tk N W w' F' g q9 q11 q12 m (nxS m s) FA fc EA ec fs es) ∨
  (((nxG m s).2.2 ≠ 4 ∧ (nxG m s).2.2 ≠ 14) ∧ e = .returned (.bool true) ∧ ∃ F' A3 c3 E3 e3 x, x.c = (nxG m s).1 ∧ x.p = (nxG m s).2.1 ∧ Tk N W w' F' g q9 q11 q12 m (nxS m s) A3 c3 E3 e3 (fs ++ [x]) (es ++ [(nxG m s).2.2]))
set_option maxRecDepth 100000 in
set_option maxHeartbeats 8000000 in
theorem take_any {N : Nat} {W w : World} {F : Nat → Prop} {g q9 q11 q12 : Nat} {m : Int} {s : St} {FA : Option Addr} {fc : Nat} {EA : Option Addr} {ec : Nat} {fs : List Frm} {es : List Nat} (hm : okM m) (hs : s.held.length ≤ 100000000) (hfl : fs.length ≤ 100000) (hel : es.length ≤ 100000) (h : Tk N W w F g q9 q11 q12 m s FA fc EA ec fs es) :
    Calls Try.prog 25 #[.pointer (some ⟨q9, 0, none⟩), .pointer (some ⟨q11, 0, none⟩), .pointer (some ⟨q12, 0, none⟩)] w (takePost N W g q9 q11 q12 m s FA fc EA ec fs es) := by
  obtain ⟨⟨cd, p, er⟩, hG⟩ : ∃ x, nxG m s = x := ⟨_, rfl⟩
  have HN := Lib.hid (next_any hm h.dec hs)
  unfold nextPost at HN
  unfold takePost
  rw [hG] at HN ⊢
  simp only at HN ⊢
  have HT := Lib.hid h
  have c9 := h.c9
  clear h hG
  go_enter Try.func25, Try.ntmps25
  go_wp2_with fail
  refine HN.out.mono ?_
  rintro e w1 ⟨V, vc, rfl, hv, hd, ho⟩
  have HT1 := Lib.hid (HT.out.step ho hd (fun j hf => Or.inl hf))
  obtain ⟨F1, hF1⟩ : ∃ F1, F1 = (fun j => F j ∧ j < w1.heap.size) := ⟨_, rfl⟩
  have HFl : Hid (∀ j, F1 j → j < w.heap.size) := fun j hj => by rw [hF1] at hj; exact (HT.out.fl j hj.1).2.1
  rw [← hF1] at HT1
  have HV := Lib.hid hv
  have HFt : Hid (∀ j, Foot FA EA fs j → j < w.heap.size) := fun j hj => (outs_foot HT.out.outs hj).2
  have HQ := Lib.hid HT.out.lt
  obtain ⟨w2, hw2⟩ : ∃ w2, w2 = w1.alloc (.cells #[.int .u8 (cd.toNat : Int), .slice V p.length vc] 39) := ⟨_, rfl⟩
  have b2 : Below w1.heap.size w1 w2 := by rw [hw2]; exact below_new _ _
  have HC2 : Hid (Cel w2 w1.heap.size (.int .u8 (cd.toNat : Int)) (.slice V p.length vc)) := by show Cel _ _ _ _; rw [hw2]; exact Cel.new _ _ _ _
  have HT2 := Lib.hid (HT1.out.below b2 (Nat.le_refl _))
  have HV2 := Lib.hid ((rb_mine HV.out).below b2 (Nat.le_refl _))
  have hz1 := ho.size
  have hz2 : w2.heap.size = w1.heap.size + 1 := by rw [hw2]; simp
  have HVB : Hid (∀ a, V = some a → w.heap.size ≤ a.block ∧ a.block < w1.heap.size) := fun a ha => ⟨(HV.out.base ha).1, (HV.out.base ha).2.1⟩
  clear hv hd ho c9 hF1
  by_cases h4 : er = 4 ∨ er = 14
  · rcases h4 with rfl | rfl
    all_goals
      go_wp2_with fail
      rw [← hw2]
      go_ret
      exact ⟨rfl, F1, HT2.out⟩
  · have e4 : ((er : Int) == 4) = false := by rw [beq_eq_false_iff_ne]; omega
    have e14 : ((er : Int) == 14) = false := by rw [beq_eq_false_iff_ne]; omega
    have HNE : Hid (er ≠ 4 ∧ er ≠ 14) := by show _ ∧ _; omega
    clear h4
    go_wp2_with fail
    rw [← hw2]
    clear hw2 b2
    obtain ⟨q4, hq4⟩ : ∃ q4, q4 = w1.heap.size := ⟨_, rfl⟩
    rw [← hq4] at HC2 HVB hz2
    rw [← hq4]
    have HQ4 : Hid (w.heap.size ≤ q4) := by show _ ≤ _; omega
    clear hq4 hz1
    have HGB : Hid (∀ j, RowsOf FA EA j → j < w.heap.size) := fun j hj => HFt.out j (by
      rcases hj with hj | hj
      · exact Or.inl hj
      · exact Or.inr (Or.inl hj))
    have HG11 : Hid (¬ RowsOf FA EA q11 ∧ ¬ RowsOf FA EA q12) := ⟨fun hj => (HT2.out.of q11 (by
      rcases hj with hj | hj
      · exact Or.inl hj
      · exact Or.inr (Or.inl hj))).2.2.1 rfl, fun hj => (HT2.out.of q12 (by
      rcases hj with hj | hj
      · exact Or.inl hj
      · exact Or.inr (Or.inl hj))).2.2.2 rfl⟩
    have x11 : ∀ v, Only (RowsOf FA EA) w2 v → v.cell? ⟨q11, 0, none⟩ = some (.slice FA fs.length fc) := fun v hv => by rw [hv.cell (a := ⟨q11, 0, none⟩) HT2.out.lt.2.1 HG11.out.1]; exact HT2.out.c11
    have x12 : ∀ v, Only (RowsOf FA EA) w2 v → v.cell? ⟨q12, 0, none⟩ = some (.slice EA es.length ec) := fun v hv => by rw [hv.cell (a := ⟨q12, 0, none⟩) HT2.out.lt.2.2 HG11.out.2]; exact HT2.out.c12
    have xf0 : ∀ v, Only (RowsOf FA EA) w2 v → v.cell? ⟨q4, 0, none⟩ = some (.int .u8 (cd.toNat : Int)) := fun v hv => by rw [hv.cell (a := ⟨q4, 0, none⟩) HC2.out.lt (fun hg => by have h1 := HGB.out _ hg; have h2 := HQ4.out; simp only at h1; omega)]; exact HC2.out.c0
    have xf1 : ∀ v, Only (RowsOf FA EA) w2 v → v.cell? ⟨q4, 1, none⟩ = some (.slice V p.length vc) := fun v hv => by rw [hv.cell (a := ⟨q4, 1, none⟩) HC2.out.lt (fun hg => by have h1 := HGB.out _ hg; have h2 := HQ4.out; simp only at h1; omega)]; exact HC2.out.c1
    have HNN := Lib.hid HT2.out.nN
    have h1112 : ¬ q11 = q12 := HT2.out.ql.2.2.2.2.2
    have h1112' : ¬ q12 = q11 := fun e => h1112 e.symm
    refine wp_region_noPanic ?_
    refine wp_region_G 8 (fun v => Only (RowsOf FA EA) w2 v) (by kernel_rfl) ?_
    obtain ⟨v0, hv0⟩ : ∃ v0, v0 = w2.drew := ⟨_, rfl⟩
    rw [← hv0]
    have OV : Hid (Only (RowsOf FA EA) w2 v0) := by show Only _ _ _; rw [hv0]; exact (Only.refl _ _).drew
    have HO : Hid (Outs N v0 FA fc EA ec fs es) := by show Outs _ _ _ _ _ _ _ _; rw [hv0]; exact HT2.out.outs.only ((Only.refl (fun _ => False) w2).drew) (fun _ _ _ hf => hf)
    clear hv0
    refine wpAnyG_take (i := 0) (oi := ⟨some 17, _, _, _, _, _⟩) (v := ?_) rfl (by kernel_rfl) (by kernel_rfl) (by kernel_rfl) (by kernel_rfl) (by kernel_rfl) (fun _ _ _ h => h) (Or.inl ⟨by rfl, ?_⟩) OV.out ?_
    rotate_left
    · intro w hSw; go_simp; first | done | with_reducible rfl
    try simp only [Act.put, List.setIfInBounds_toArray, List.set_cons_zero, List.set_cons_succ]
    refine wpAnyG_take (i := 1) (oi := ⟨some 18, _, _, _, _, _⟩) (v := ?_) rfl (by kernel_rfl) (by kernel_rfl) (by kernel_rfl) (by kernel_rfl) (by kernel_rfl) (fun _ _ _ h => h) (Or.inl ⟨by rfl, ?_⟩) OV.out ?_
    rotate_left
    · intro w hSw; go_simp; first | done | with_reducible rfl
    try simp only [Act.put, List.setIfInBounds_toArray, List.set_cons_zero, List.set_cons_succ]
    refine wpAnyG_take (i := 4) (oi := ⟨some 21, _, _, _, _, _⟩) (v := ?_) rfl (by kernel_rfl) (by kernel_rfl) (by kernel_rfl) (by kernel_rfl) (by kernel_rfl) (fun _ _ _ h => h) (Or.inl ⟨by rfl, ?_⟩) OV.out ?_
    rotate_left
    · intro w hSw; go_simp; first | done | with_reducible rfl
    try simp only [Act.put, List.setIfInBounds_toArray, List.set_cons_zero, List.set_cons_succ]
    refine wpAnyG_take (i := 5) (oi := ⟨some 22, _, _, _, _, _⟩) (v := ?_) rfl (by kernel_rfl) (by kernel_rfl) (by kernel_rfl) (by kernel_rfl) (by kernel_rfl) (fun _ _ _ h => h) (Or.inl ⟨by rfl, ?_⟩) OV.out ?_
    rotate_left
    · intro w hSw; go_simp; first | done | with_reducible rfl
    try simp only [Act.put, List.setIfInBounds_toArray, List.set_cons_zero, List.set_cons_succ]
    refine wpAnyG_ready (rs := [2, 6]) (by kernel_rfl) (by simp) ?_
    refine AllReadyG.cons (o := ⟨some 19, _, _, _, _, _⟩) rfl (fun K hK => ?wa) (AllReadyG.cons (o := ⟨some 23, _, _, _, _, _⟩) rfl (fun K hK => ?wb) AllReadyG.nil)
    case wa =>
      go_simp
      have NG1 : Hid (¬ RowsOf FA EA v0.heap.size) := fun hg => by have h1 := HGB.out _ hg; have h2 := OV.out.size; have h3 := HQ4.out; omega
      have L1 := Lib.hid (Lay.new (w := v0) (nb := v0.heap.size) rfl #[.int .u8 (cd.toNat : Int), .slice V p.length vc] 39)
      replace OV := Lib.hid (OV.out.alloc (.cells #[.int .u8 (cd.toNat : Int), .slice V p.length vc] 39))
      replace HO := Lib.hid (HO.out.below (below_new v0 (.cells #[.int .u8 (cd.toNat : Int), .slice V p.length vc] 39)) (Nat.le_refl _))
      refine hK.out _ _ (fun _ => OV.out) ?_
      clear hK K
      try simp only [Act.put, List.setIfInBounds_toArray, List.set_cons_zero, List.set_cons_succ]
      obtain ⟨n1, hn1⟩ : ∃ n1, n1 = v0.heap.size := ⟨_, rfl⟩
      obtain ⟨v1, hv1⟩ : ∃ v1, v1 = v0.alloc (.cells #[.int .u8 (cd.toNat : Int), .slice V p.length vc] 39) := ⟨_, rfl⟩
      rw [← hn1] at NG1 L1
      rw [← hv1] at L1 HO OV
      rw [← hn1, ← hv1]
      clear hn1 hv1
      refine wpAnyG_ready (rs := [3, 6]) (by kernel_rfl) (by simp) ?_
      refine AllReadyG.cons (o := ⟨some 20, _, _, _, _, _⟩) rfl (fun K hK => ?waa) (AllReadyG.cons (o := ⟨some 23, _, _, _, _, _⟩) rfl (fun K hK => ?wab) AllReadyG.nil)
      case waa =>
        refine step_mine (by kernel_rfl) _ _ elmF _ rfl rfl HO.out.mf _ rfl 1 _ (src_of_lit L1.out Try.underlying48 rfl (one_frame _ _ _ _)) (by omega) (by omega) (by have h1 := OV.out.size; have h2 := HNN.out; omega) ?_
        intro A3 c3 v2 m3 g3 d3
        have g3o : Only (RowsOf FA EA) v1 v2 := Only.of_grown g3 (fun k e => by rw [Option.map_eq_some_iff] at e; exact Or.inl e)
        have HV3 := rb_only HV2.out OV.out (fun a ha hg => by have h1 := HGB.out _ hg; have h2 := (HVB.out a ha).1; omega)
        replace HO := Lib.hid (HO.out.pushF' rfl rfl cd V p vc HV3 (fun a ha => by
          have h1 := HVB.out a ha; have h2 := OV.out.size; have h3 := HT.out.nN; have h4 := HQ4.out
          refine ⟨by omega, by omega, fun b hb e => ?_, fun b hb e => ?_⟩
          · have := HGB.out b.block (Or.inl ⟨b, hb, rfl⟩); omega
          · have := HGB.out b.block (Or.inr ⟨b, hb, rfl⟩); omega) m3 g3 d3)
        have HDA : Hid (A3 = FA ∨ ∀ a, A3 = some a → w2.heap.size ≤ a.block) := d3.imp id (fun h a ha => Nat.le_trans OV.out.size (h a ha))
        replace OV := Lib.hid (OV.out.trans (g3o.mono fun j _ hg => Or.inl hg))
        clear m3 g3 d3 g3o HV3
        refine hK.out _ _ (fun _ => OV.out) ?_
        clear hK K
        try simp only [Act.put, List.setIfInBounds_toArray, List.set_cons_zero, List.set_cons_succ]
        refine wpAnyG_ready (rs := [6]) (by kernel_rfl) (by simp) ?_
        refine AllReadyG.cons (o := ⟨some 23, _, _, _, _, _⟩) rfl (fun K hK => ?_) AllReadyG.nil
        go_simp
        have NG2 : Hid (¬ RowsOf FA EA v2.heap.size) := fun hg => by have h1 := HGB.out _ hg; have h2 := OV.out.size; have h3 := HQ4.out; omega
        have L2 := Lib.hid (Lay.new (w := v2) (nb := v2.heap.size) rfl #[.int .i64 (er : Int)] 3)
        replace OV := Lib.hid (OV.out.alloc (.cells #[.int .i64 (er : Int)] 3))
        replace HO := Lib.hid (HO.out.below (below_new v2 (.cells #[.int .i64 (er : Int)] 3)) (Nat.le_refl _))
        refine hK.out _ _ (fun _ => OV.out) ?_
        clear hK K
        try simp only [Act.put, List.setIfInBounds_toArray, List.set_cons_zero, List.set_cons_succ]
        obtain ⟨n2, hn2⟩ : ∃ n2, n2 = v2.heap.size := ⟨_, rfl⟩
        obtain ⟨v3, hv3⟩ : ∃ v3, v3 = v2.alloc (.cells #[.int .i64 (er : Int)] 3) := ⟨_, rfl⟩
        rw [← hn2] at NG2 L2
        rw [← hv3] at L2 HO OV
        rw [← hn2, ← hv3]
        clear hn2 hv3
        refine wpAnyG_ready (rs := [7]) (by kernel_rfl) (by simp) ?_
        refine AllReadyG.cons (o := ⟨some 24, _, _, _, _, _⟩) rfl (fun K hK => ?_) AllReadyG.nil
        refine step_mine (by kernel_rfl) _ _ elmI _ rfl rfl HO.out.me _ rfl 1 _ (src_of_lit L2.out Try.underlying52 rfl (one_cell _ _)) (by omega) (by omega) (by have h1 := OV.out.size; have h2 := HNN.out; omega) ?_
        intro E3 e3 v4 m3 g3 d3
        have g3o : Only (RowsOf FA EA) v3 v4 := Only.of_grown g3 (fun k e => by rw [Option.map_eq_some_iff] at e; exact Or.inr e)
        replace HO := Lib.hid (HO.out.pushE' rfl rfl er m3 g3 d3)
        have HDE : Hid (E3 = EA ∨ ∀ a, E3 = some a → w2.heap.size ≤ a.block) := d3.imp id (fun h a ha => Nat.le_trans OV.out.size (h a ha))
        replace OV := Lib.hid (OV.out.trans (g3o.mono fun j _ hg => Or.inl hg))
        clear m3 g3 d3 g3o
        refine hK.out _ _ (fun _ => OV.out) ?_
        clear hK K
        try simp only [Act.put, List.setIfInBounds_toArray, List.set_cons_zero, List.set_cons_succ]
        have k11 := x11 _ OV.out
        have k12 := x12 _ OV.out
        have k11f : v4.frozen? ⟨q11, 0, none⟩ = false := by rw [OV.out.frozen (a := ⟨q11, 0, none⟩) HT2.out.lt.2.1 HG11.out.1]; exact HT2.out.f11
        have k12f : v4.frozen? ⟨q12, 0, none⟩ = false := by rw [OV.out.frozen (a := ⟨q12, 0, none⟩) HT2.out.lt.2.2 HG11.out.2]; exact HT2.out.f12
        refine wpAnyG_ready (rs := [8]) (by kernel_rfl) (by simp) ?_
        refine AllReadyG.cons (o := ⟨none, _, _, _, _, _⟩) rfl (fun K hK => ?_) AllReadyG.nil
        go_simp
        refine hK.out _ _ (fun h => absurd h (by omega)) ?_
        clear hK K
        try simp only [Act.put, List.setIfInBounds_toArray, List.set_cons_zero, List.set_cons_succ]
        refine wpAnyG_ready (rs := [9]) (by kernel_rfl) (by simp) ?_
        refine AllReadyG.cons (o := ⟨none, _, _, _, _, _⟩) rfl (fun K hK => ?_) AllReadyG.nil
        go_simp
        refine hK.out _ _ (fun h => absurd h (by omega)) ?_
        clear hK K
        try simp only [Act.put, List.setIfInBounds_toArray, List.set_cons_zero, List.set_cons_succ]
        refine wpAnyG_done (by kernel_rfl) ?_ _
        refine NoPanic.normal ?_
        go_wp2_with fail
        go_ret
        refine Or.inr ⟨HNE.out, rfl, F1, A3, c3, E3, e3, ⟨cd, V, vc, p⟩, rfl, rfl, ?_⟩
        exact Tk.push HT2.out OV.out HO.out HDA.out HDE.out (fun a ha => by
          have h1 := HVB.out a ha; have h2 := HQ.out
          exact ⟨fun hf => by have := HFl.out _ hf; omega, by omega, by omega, by omega⟩)
      case wab =>
        go_simp
        have NG2 : Hid (¬ RowsOf FA EA v1.heap.size) := fun hg => by have h1 := HGB.out _ hg; have h2 := OV.out.size; have h3 := HQ4.out; omega
        have L2 := Lib.hid (Lay.new (w := v1) (nb := v1.heap.size) rfl #[.int .i64 (er : Int)] 3)
        replace OV := Lib.hid (OV.out.alloc (.cells #[.int .i64 (er : Int)] 3))
        replace HO := Lib.hid (HO.out.below (below_new v1 (.cells #[.int .i64 (er : Int)] 3)) (Nat.le_refl _))
        replace L1 := Lib.hid (L1.out.only (Only.of_below (below_new v1 (.cells #[.int .i64 (er : Int)] 3)) (Nat.le_refl _) (fun _ => False)) (fun hf => hf))
        refine hK.out _ _ (fun _ => OV.out) ?_
        clear hK K
        try simp only [Act.put, List.setIfInBounds_toArray, List.set_cons_zero, List.set_cons_succ]
        obtain ⟨n2, hn2⟩ : ∃ n2, n2 = v1.heap.size := ⟨_, rfl⟩
        obtain ⟨v2, hv2⟩ : ∃ v2, v2 = v1.alloc (.cells #[.int .i64 (er : Int)] 3) := ⟨_, rfl⟩
        rw [← hn2] at NG2 L2
        rw [← hv2] at L2 L1 HO OV
        rw [← hn2, ← hv2]
        clear hn2 hv2
        refine wpAnyG_ready (rs := [3]) (by kernel_rfl) (by simp) ?_
        refine AllReadyG.cons (o := ⟨some 20, _, _, _, _, _⟩) rfl (fun K hK => ?_) AllReadyG.nil
        refine step_mine (by kernel_rfl) _ _ elmF _ rfl rfl HO.out.mf _ rfl 1 _ (src_of_lit L1.out Try.underlying48 rfl (one_frame _ _ _ _)) (by omega) (by omega) (by have h1 := OV.out.size; have h2 := HNN.out; omega) ?_
        intro A3 c3 v3 m3 g3 d3
        have g3o : Only (RowsOf FA EA) v2 v3 := Only.of_grown g3 (fun k e => by rw [Option.map_eq_some_iff] at e; exact Or.inl e)
        have HV3 := rb_only HV2.out OV.out (fun a ha hg => by have h1 := HGB.out _ hg; have h2 := (HVB.out a ha).1; omega)
        replace HO := Lib.hid (HO.out.pushF' rfl rfl cd V p vc HV3 (fun a ha => by
          have h1 := HVB.out a ha; have h2 := OV.out.size; have h3 := HT.out.nN; have h4 := HQ4.out
          refine ⟨by omega, by omega, fun b hb e => ?_, fun b hb e => ?_⟩
          · have := HGB.out b.block (Or.inl ⟨b, hb, rfl⟩); omega
          · have := HGB.out b.block (Or.inr ⟨b, hb, rfl⟩); omega) m3 g3 d3)
        have HDA : Hid (A3 = FA ∨ ∀ a, A3 = some a → w2.heap.size ≤ a.block) := d3.imp id (fun h a ha => Nat.le_trans OV.out.size (h a ha))
        replace OV := Lib.hid (OV.out.trans (g3o.mono fun j _ hg => Or.inl hg))
        replace L2 := Lib.hid (L2.out.only g3o NG2.out)
        clear m3 g3 d3 g3o HV3
        refine hK.out _ _ (fun _ => OV.out) ?_
        clear hK K
        try simp only [Act.put, List.setIfInBounds_toArray, List.set_cons_zero, List.set_cons_succ]
        refine wpAnyG_ready (rs := [7]) (by kernel_rfl) (by simp) ?_
        refine AllReadyG.cons (o := ⟨some 24, _, _, _, _, _⟩) rfl (fun K hK => ?_) AllReadyG.nil
        refine step_mine (by kernel_rfl) _ _ elmI _ rfl rfl HO.out.me _ rfl 1 _ (src_of_lit L2.out Try.underlying52 rfl (one_cell _ _)) (by omega) (by omega) (by have h1 := OV.out.size; have h2 := HNN.out; omega) ?_
        intro E3 e3 v4 m3 g3 d3
        have g3o : Only (RowsOf FA EA) v3 v4 := Only.of_grown g3 (fun k e => by rw [Option.map_eq_some_iff] at e; exact Or.inr e)
        replace HO := Lib.hid (HO.out.pushE' rfl rfl er m3 g3 d3)
        have HDE : Hid (E3 = EA ∨ ∀ a, E3 = some a → w2.heap.size ≤ a.block) := d3.imp id (fun h a ha => Nat.le_trans OV.out.size (h a ha))
        replace OV := Lib.hid (OV.out.trans (g3o.mono fun j _ hg => Or.inl hg))
        clear m3 g3 d3 g3o
        refine hK.out _ _ (fun _ => OV.out) ?_
        clear hK K
        try simp only [Act.put, List.setIfInBounds_toArray, List.set_cons_zero, List.set_cons_succ]
        have k11 := x11 _ OV.out
        have k12 := x12 _ OV.out
        have k11f : v4.frozen? ⟨q11, 0, none⟩ = false := by rw [OV.out.frozen (a := ⟨q11, 0, none⟩) HT2.out.lt.2.1 HG11.out.1]; exact HT2.out.f11
        have k12f : v4.frozen? ⟨q12, 0, none⟩ = false := by rw [OV.out.frozen (a := ⟨q12, 0, none⟩) HT2.out.lt.2.2 HG11.out.2]; exact HT2.out.f12
        refine wpAnyG_ready (rs := [8]) (by kernel_rfl) (by simp) ?_
        refine AllReadyG.cons (o := ⟨none, _, _, _, _, _⟩) rfl (fun K hK => ?_) AllReadyG.nil
        go_simp
        refine hK.out _ _ (fun h => absurd h (by omega)) ?_
        clear hK K
        try simp only [Act.put, List.setIfInBounds_toArray, List.set_cons_zero, List.set_cons_succ]
        refine wpAnyG_ready (rs := [9]) (by kernel_rfl) (by simp) ?_
        refine AllReadyG.cons (o := ⟨none, _, _, _, _, _⟩) rfl (fun K hK => ?_) AllReadyG.nil
        go_simp
        refine hK.out _ _ (fun h => absurd h (by omega)) ?_
        clear hK K
        try simp only [Act.put, List.setIfInBounds_toArray, List.set_cons_zero, List.set_cons_succ]
        refine wpAnyG_done (by kernel_rfl) ?_ _
        refine NoPanic.normal ?_
        go_wp2_with fail
        go_ret
        refine Or.inr ⟨HNE.out, rfl, F1, A3, c3, E3, e3, ⟨cd, V, vc, p⟩, rfl, rfl, ?_⟩
        exact Tk.push HT2.out OV.out HO.out HDA.out HDE.out (fun a ha => by
          have h1 := HVB.out a ha; have h2 := HQ.out
          exact ⟨fun hf => by have := HFl.out _ hf; omega, by omega, by omega, by omega⟩)
    case wb =>
      go_simp
      have NG2 : Hid (¬ RowsOf FA EA v0.heap.size) := fun hg => by have h1 := HGB.out _ hg; have h2 := OV.out.size; have h3 := HQ4.out; omega
      have L2 := Lib.hid (Lay.new (w := v0) (nb := v0.heap.size) rfl #[.int .i64 (er : Int)] 3)
      replace OV := Lib.hid (OV.out.alloc (.cells #[.int .i64 (er : Int)] 3))
      replace HO := Lib.hid (HO.out.below (below_new v0 (.cells #[.int .i64 (er : Int)] 3)) (Nat.le_refl _))
      refine hK.out _ _ (fun _ => OV.out) ?_
      clear hK K
      try simp only [Act.put, List.setIfInBounds_toArray, List.set_cons_zero, List.set_cons_succ]
      obtain ⟨n2, hn2⟩ : ∃ n2, n2 = v0.heap.size := ⟨_, rfl⟩
      obtain ⟨v1, hv1⟩ : ∃ v1, v1 = v0.alloc (.cells #[.int .i64 (er : Int)] 3) := ⟨_, rfl⟩
      rw [← hn2] at NG2 L2
      rw [← hv1] at L2 HO OV
      rw [← hn2, ← hv1]
      clear hn2 hv1
      refine wpAnyG_ready (rs := [2]) (by kernel_rfl) (by simp) ?_
      refine AllReadyG.cons (o := ⟨some 19, _, _, _, _, _⟩) rfl (fun K hK => ?_) AllReadyG.nil
      go_simp
      have NG1 : Hid (¬ RowsOf FA EA v1.heap.size) := fun hg => by have h1 := HGB.out _ hg; have h2 := OV.out.size; have h3 := HQ4.out; omega
      have L1 := Lib.hid (Lay.new (w := v1) (nb := v1.heap.size) rfl #[.int .u8 (cd.toNat : Int), .slice V p.length vc] 39)
      replace OV := Lib.hid (OV.out.alloc (.cells #[.int .u8 (cd.toNat : Int), .slice V p.length vc] 39))
      replace HO := Lib.hid (HO.out.below (below_new v1 (.cells #[.int .u8 (cd.toNat : Int), .slice V p.length vc] 39)) (Nat.le_refl _))
      replace L2 := Lib.hid (L2.out.only (Only.of_below (below_new v1 (.cells #[.int .u8 (cd.toNat : Int), .slice V p.length vc] 39)) (Nat.le_refl _) (fun _ => False)) (fun hf => hf))
      refine hK.out _ _ (fun _ => OV.out) ?_
      clear hK K
      try simp only [Act.put, List.setIfInBounds_toArray, List.set_cons_zero, List.set_cons_succ]
      obtain ⟨n1, hn1⟩ : ∃ n1, n1 = v1.heap.size := ⟨_, rfl⟩
      obtain ⟨v2, hv2⟩ : ∃ v2, v2 = v1.alloc (.cells #[.int .u8 (cd.toNat : Int), .slice V p.length vc] 39) := ⟨_, rfl⟩
      rw [← hn1] at NG1 L1
      rw [← hv2] at L1 L2 HO OV
      rw [← hn1, ← hv2]
      clear hn1 hv2
      refine wpAnyG_ready (rs := [3]) (by kernel_rfl) (by simp) ?_
      refine AllReadyG.cons (o := ⟨some 20, _, _, _, _, _⟩) rfl (fun K hK => ?_) AllReadyG.nil
      refine step_mine (by kernel_rfl) _ _ elmF _ rfl rfl HO.out.mf _ rfl 1 _ (src_of_lit L1.out Try.underlying48 rfl (one_frame _ _ _ _)) (by omega) (by omega) (by have h1 := OV.out.size; have h2 := HNN.out; omega) ?_
      intro A3 c3 v3 m3 g3 d3
      have g3o : Only (RowsOf FA EA) v2 v3 := Only.of_grown g3 (fun k e => by rw [Option.map_eq_some_iff] at e; exact Or.inl e)
      have HV3 := rb_only HV2.out OV.out (fun a ha hg => by have h1 := HGB.out _ hg; have h2 := (HVB.out a ha).1; omega)
      replace HO := Lib.hid (HO.out.pushF' rfl rfl cd V p vc HV3 (fun a ha => by
        have h1 := HVB.out a ha; have h2 := OV.out.size; have h3 := HT.out.nN; have h4 := HQ4.out
        refine ⟨by omega, by omega, fun b hb e => ?_, fun b hb e => ?_⟩
        · have := HGB.out b.block (Or.inl ⟨b, hb, rfl⟩); omega
        · have := HGB.out b.block (Or.inr ⟨b, hb, rfl⟩); omega) m3 g3 d3)
      have HDA : Hid (A3 = FA ∨ ∀ a, A3 = some a → w2.heap.size ≤ a.block) := d3.imp id (fun h a ha => Nat.le_trans OV.out.size (h a ha))
      replace OV := Lib.hid (OV.out.trans (g3o.mono fun j _ hg => Or.inl hg))
      replace L2 := Lib.hid (L2.out.only g3o NG2.out)
      clear m3 g3 d3 g3o HV3
      refine hK.out _ _ (fun _ => OV.out) ?_
      clear hK K
      try simp only [Act.put, List.setIfInBounds_toArray, List.set_cons_zero, List.set_cons_succ]
      refine wpAnyG_ready (rs := [7]) (by kernel_rfl) (by simp) ?_
      refine AllReadyG.cons (o := ⟨some 24, _, _, _, _, _⟩) rfl (fun K hK => ?_) AllReadyG.nil
      refine step_mine (by kernel_rfl) _ _ elmI _ rfl rfl HO.out.me _ rfl 1 _ (src_of_lit L2.out Try.underlying52 rfl (one_cell _ _)) (by omega) (by omega) (by have h1 := OV.out.size; have h2 := HNN.out; omega) ?_
      intro E3 e3 v4 m3 g3 d3
      have g3o : Only (RowsOf FA EA) v3 v4 := Only.of_grown g3 (fun k e => by rw [Option.map_eq_some_iff] at e; exact Or.inr e)
      replace HO := Lib.hid (HO.out.pushE' rfl rfl er m3 g3 d3)
      have HDE : Hid (E3 = EA ∨ ∀ a, E3 = some a → w2.heap.size ≤ a.block) := d3.imp id (fun h a ha => Nat.le_trans OV.out.size (h a ha))
      replace OV := Lib.hid (OV.out.trans (g3o.mono fun j _ hg => Or.inl hg))
      clear m3 g3 d3 g3o
      refine hK.out _ _ (fun _ => OV.out) ?_
      clear hK K
      try simp only [Act.put, List.setIfInBounds_toArray, List.set_cons_zero, List.set_cons_succ]
      have k11 := x11 _ OV.out
      have k12 := x12 _ OV.out
      have k11f : v4.frozen? ⟨q11, 0, none⟩ = false := by rw [OV.out.frozen (a := ⟨q11, 0, none⟩) HT2.out.lt.2.1 HG11.out.1]; exact HT2.out.f11
      have k12f : v4.frozen? ⟨q12, 0, none⟩ = false := by rw [OV.out.frozen (a := ⟨q12, 0, none⟩) HT2.out.lt.2.2 HG11.out.2]; exact HT2.out.f12
      refine wpAnyG_ready (rs := [8]) (by kernel_rfl) (by simp) ?_
      refine AllReadyG.cons (o := ⟨none, _, _, _, _, _⟩) rfl (fun K hK => ?_) AllReadyG.nil
      go_simp
      refine hK.out _ _ (fun h => absurd h (by omega)) ?_
      clear hK K
      try simp only [Act.put, List.setIfInBounds_toArray, List.set_cons_zero, List.set_cons_succ]
      refine wpAnyG_ready (rs := [9]) (by kernel_rfl) (by simp) ?_
      refine AllReadyG.cons (o := ⟨none, _, _, _, _, _⟩) rfl (fun K hK => ?_) AllReadyG.nil
      go_simp
      refine hK.out _ _ (fun h => absurd h (by omega)) ?_
      clear hK K
      try simp only [Act.put, List.setIfInBounds_toArray, List.set_cons_zero, List.set_cons_succ]
      refine wpAnyG_done (by kernel_rfl) ?_ _
      refine NoPanic.normal ?_
      go_wp2_with fail
      go_ret
      refine Or.inr ⟨HNE.out, rfl, F1, A3, c3, E3, e3, ⟨cd, V, vc, p⟩, rfl, rfl, ?_⟩
      exact Tk.push HT2.out OV.out HO.out HDA.out HDE.out (fun a ha => by
        have h1 := HVB.out a ha; have h2 := HQ.out
        exact ⟨fun hf => by have := HFl.out _ hf; omega, by omega, by omega, by omega⟩)
end Go.Proofs.Ytmphielkohnpgaa.Dw
