/- Proves what the specification's number and bytes return: the next number or bytes, and what is left. Conditions: few bytes. -/
import Derived.Test.YthlfahblnpijaaaSe
import Derived.Test.YthlfahblnpijaaaVgr
import Derived.Test.YthlfahblnpijaaaVpr
import Derived.Test.YthlfahblnpijaaaVsa
import Derived.Deep.RegionHeld3
namespace Go.Proofs.Ythlfahblnpijaaa.Sn
open Go.RowKit Vm Ap Vw Va Vg Vgr Vp Vpr Gc Mi Mb Qm Sm Se

/-- The next number, what is left, and whether something was wrong. -/
def nx (l : Bs) (b : Bool) : Nat × Bs × Bool := match rdN l with | some p => (p.1, p.2, b) | none => (0, [], true)
def bx (l : Bs) (b : Bool) : Bs × Bs × Bool := match rdS l with | some p => (p.1, p.2, b) | none => ([], [], true)
theorem nx_some {l r : Bs} {n : Nat} {b : Bool} (h : rdN l = some (n, r)) : nx l b = (n, r, b) := by unfold nx; rw [h]
theorem nx_none {l : Bs} {b : Bool} (h : rdN l = none) : nx l b = (0, [], true) := by unfold nx; rw [h]
theorem bx_some {l r s : Bs} {b : Bool} (h : rdS l = some (s, r)) : bx l b = (s, r, b) := by unfold bx; rw [h]
theorem bx_none {l : Bs} {b : Bool} (h : rdS l = none) : bx l b = ([], [], true) := by unfold bx; rw [h]
def nxPost (w : World) (A0 : Option Addr) (l : Bs) (c0 : Nat) (b0 : Bool) : Ending → World → Prop := fun e w' =>
  ∃ n A r c b, e = .returned (.tuple #[.int .u64 ((n : Nat) : Int), .agg #[.slice A (r : Bs).length c, .bool b]]) ∧ Below w.heap.size w w' ∧ (∀ W, Arg W A0 l c0 → Arg W A r c) ∧ Hid (nx l b0 = (n, r, b)) ∧ n < big ∧ r.length ≤ l.length
def bxPost (w : World) (A0 : Option Addr) (l : Bs) (c0 : Nat) (b0 : Bool) : Ending → World → Prop := fun e w' =>
  ∃ v s A r c b, e = .returned (.tuple #[v, .agg #[.slice A (r : Bs).length c, .bool b]]) ∧ Own w.heap.size w' v s ∧ Below w.heap.size w w' ∧ (∀ W, Arg W A0 l c0 → Arg W A r c) ∧ Hid (bx l b0 = (s, r, b)) ∧ s.length ≤ l.length ∧ r.length ≤ l.length
theorem arg_nil (W : World) : Arg W none [] 0 := ⟨Rb.nil _ _, Nat.le_refl _, by unfold maxLen; omega, fun _ => rfl⟩
theorem set2 (w : World) (g : Nat) (x y : Value) : Only (fun j => j = g) w ((w.setCell ⟨g, 0, none⟩ x).setCell ⟨g, 1, none⟩ y) := ((Only.refl (fun j => j = g) w).put (ad := ⟨g, 0, none⟩) rfl x).put (ad := ⟨g, 1, none⟩) rfl y
theorem set2_below {B : Nat} {w w' : World} {g : Nat} (h : Below B w w') (hg : B ≤ g) (x y : Value) : Below B w ((w'.setCell ⟨g, 0, none⟩ x).setCell ⟨g, 1, none⟩ y) := (h.setCell (by simpa using hg) _).setCell (by simpa using hg) _

set_option maxRecDepth 100000 in
set_option maxHeartbeats 4000000 in
theorem rnumber_any (A : Option Addr) (l : Bs) (c : Nat) (b0 : Bool) (w : World) (hA : Arg w A l c) (hl : l.length ≤ 2000000) :
    Calls Try.prog 36 #[.agg #[.slice A l.length c, .bool b0]] w (nxPost w A l c b0) := by
  obtain ⟨C, hC⟩ : ∃ C, C = w.heap.size := ⟨_, rfl⟩
  obtain ⟨w0, hw0⟩ : ∃ w0, w0 = (w.alloc (.cells #[.slice A l.length c, .bool b0] 74)).alloc (.cells #[.slice none 0 0, .bool false] 74) := ⟨_, rfl⟩
  have B0 : Below w.heap.size w w0 := by rw [hw0]; exact two_below _ _ _
  have HB := Lib.hid B0
  have HP : Hid (Cel w0 C (.slice A l.length c) (.bool b0)) := by show Cel _ _ _ _; rw [hw0, hC]; exact (Cel.new w _ _ _).below (alloc_below _ _) (Nat.le_refl _)
  have HQ : Hid (Cel w0 (C + 1) (.slice none 0 0) (.bool false)) := by
    have h := Cel.new (w.alloc (.cells #[.slice A l.length c, .bool b0] 74)) (.slice none 0 0) (.bool false) 74
    have e : (w.alloc (.cells #[.slice A l.length c, .bool b0] 74)).heap.size = C + 1 := by rw [hC]; simp
    rw [e] at h
    show Cel _ _ _ _
    rw [hw0]; exact h
  have HS0 : Hid (w0.heap.size = C + 2) := by show _ = _; rw [hw0, hC]; simp
  have HCW := Lib.hid hC
  have HA0 := Lib.hid (arg_below hA B0 (Nat.le_refl _))
  clear B0
  have HG := Lib.hid (rget_any A l c w0 HA0.out.rd (by omega))
  obtain ⟨g1, g2, _⟩ := get_lt l
  by_cases he : getE l = 0
  · have HR : Hid (nx l b0 = (getN l, l.drop (getS l), b0)) := nx_some (by unfold rdN; rw [if_pos he])
    have hpos : 0 < l.length := by
      have := (get_has l he).1
      have := enc_pos (getN l)
      omega
    have HGR : Hid (getR l = .tuple #[.int .u64 (getN l : Int), .int .i64 (getS l : Int), .int .i64 0]) := by show _ = _; unfold getR; rw [he]; rfl
    have HCUT := Lib.hid (fun W (h : Arg W A l c) => arg_cut h (getS l) g2)
    have HNB : Hid (getN l < big) := g1
    unfold big at g1
    generalize getN l = n at *
    generalize getS l = s at *
    obtain ⟨b, o, rfl, _, _⟩ := hA.rd hpos
    have hle := hA.le; have hmx := hA.max
    unfold maxLen at hmx
    have hd : (l.drop s).length = l.length - s := List.length_drop
    have HD := Lib.hid hd
    clear he hA hd hpos
    by_cases hc0 : c = s
    · have HA' : Hid (cutA (some ⟨b, o, none⟩) s c = some ⟨b, o, none⟩) := by show _ = _; unfold cutA; rw [if_pos hc0]
      rw [HA'.out] at HCUT
      subst hc0
      rw [Nat.sub_self] at HCUT
      have HZ : Hid ((l.drop c).length = 0) := by show _ = _; rw [HD.out]; omega
      clear HA'
      go_enter Try.func36, Try.ntmps36
      go_upto_region 1 with fail
      rw [← hw0, ← hC]
      clear hw0 hC
      obtain ⟨p0, p1, _, _⟩ := HP.out
      go_wp2_with fail
      with_reducible refine HG.out.mono ?_
      rintro e w' ⟨rfl, rfl⟩
      rw [HGR.out]
      have HP1 := Lib.hid (HP.out.below (Below.refl w0.heap.size w0) (Nat.le_refl _))
      have HQ1 := Lib.hid (HQ.out.below (Below.refl w0.heap.size w0) (Nat.le_refl _))
      have k0 : ∀ v, Below (C + 1) w0 v → v.cell? ⟨C, 0, none⟩ = some (.slice (some ⟨b, o, none⟩) l.length c) := fun v h => by rw [h.cell (p := ⟨C, 0, none⟩) (by show C < C + 1; omega)]; exact HP1.out.c0
      have k1 : ∀ v, Below (C + 1) w0 v → v.cell? ⟨C, 1, none⟩ = some (.bool b0) := fun v h => by rw [h.cell (p := ⟨C, 1, none⟩) (by show C < C + 1; omega)]; exact HP1.out.c1
      clear p0 p1
      go_wp2_with fail
      refine wp_region_noPanic ?_
      refine wp_region_held_drew (S := fun v => Below (C + 1) w0 v) (by kernel_rfl) ((Below.refl _ _).drew) (fun hHeld => ?_)
      refine wpAnyH_take (i := 0) (oi := ⟨some 17, _, _, _, _, _⟩) (v := ?_) rfl (by kernel_rfl) (by kernel_rfl) (by kernel_rfl) (fun _ _ _ h => h) (Or.inl ⟨by rfl, ?_⟩) (by assumption) ?_
      rotate_left
      · intro w hSw; go_simp; first | done | with_reducible rfl
      try simp only [Act.put, List.setIfInBounds_toArray, List.set_cons_zero, List.set_cons_succ]
      refine wpAnyH_take (i := 1) (oi := ⟨some 18, _, _, _, _, _⟩) (v := ?_) rfl (by kernel_rfl) (by kernel_rfl) (by kernel_rfl) (fun _ _ _ h => h) (Or.inl ⟨by rfl, ?_⟩) (by assumption) ?_
      rotate_left
      · intro w hSw; go_simp; first | done | with_reducible rfl
      try simp only [Act.put, List.setIfInBounds_toArray, List.set_cons_zero, List.set_cons_succ]
      refine wpAnyH_take (i := 2) (oi := ⟨some 19, _, _, _, _, _⟩) (v := ?_) rfl (by kernel_rfl) (by kernel_rfl) (by kernel_rfl) (fun _ _ _ h => h) (Or.inl ⟨by rfl, ?_⟩) (by assumption) ?_
      rotate_left
      · intro w hSw; go_simp; first | done | with_reducible rfl
      try simp only [Act.put, List.setIfInBounds_toArray, List.set_cons_zero, List.set_cons_succ]
      refine wpAnyH_take (i := 3) (oi := ⟨some 20, _, _, _, _, _⟩) (v := ?_) rfl (by kernel_rfl) (by kernel_rfl) (by kernel_rfl) (fun _ _ _ h => h) (Or.inl ⟨by rfl, ?_⟩) (by assumption) ?_
      rotate_left
      · intro w hSw; go_simp; first | done | with_reducible rfl
      try simp only [Act.put, List.setIfInBounds_toArray, List.set_cons_zero, List.set_cons_succ]
      refine wpAnyH_take (i := 4) (oi := ⟨some 21, _, _, _, _, _⟩) (v := ?_) rfl (by kernel_rfl) (by kernel_rfl) (by kernel_rfl) (fun _ _ _ h => h) (Or.inl ⟨by rfl, ?_⟩) (by assumption) ?_
      rotate_left
      · intro w hSw; go_simp; first | done | with_reducible rfl
      try simp only [Act.put, List.setIfInBounds_toArray, List.set_cons_zero, List.set_cons_succ]
      refine wpAnyH_take (i := 5) (oi := ⟨some 22, _, _, _, _, _⟩) (v := ?_) rfl (by kernel_rfl) (by kernel_rfl) (by kernel_rfl) (fun _ _ _ h => h) (Or.inl ⟨by rfl, ?_⟩) (by assumption) ?_
      rotate_left
      · intro w hSw; go_simp; first | done | with_reducible rfl
      try simp only [Act.put, List.setIfInBounds_toArray, List.set_cons_zero, List.set_cons_succ]
      refine wpAnyH_take (i := 6) (oi := ⟨some 23, _, _, _, _, _⟩) (v := ?_) rfl (by kernel_rfl) (by kernel_rfl) (by kernel_rfl) (fun _ _ _ h => h) (Or.inl ⟨by rfl, ?_⟩) (by assumption) ?_
      rotate_left
      · intro w hSw; go_simp; first | done | with_reducible rfl
      try simp only [Act.put, List.setIfInBounds_toArray, List.set_cons_zero, List.set_cons_succ]
      refine wpAnyH_take (i := 7) (oi := ⟨some 24, _, _, _, _, _⟩) (v := ?_) rfl (by kernel_rfl) (by kernel_rfl) (by kernel_rfl) (fun _ _ _ h => h) (Or.inl ⟨by rfl, ?_⟩) (by assumption) ?_
      rotate_left
      · intro w hSw; go_simp; first | done | with_reducible rfl
      try simp only [Act.put, List.setIfInBounds_toArray, List.set_cons_zero, List.set_cons_succ]
      refine wpAnyH_take (i := 8) (oi := ⟨some 2, _, _, _, _, _⟩) (v := ?_) rfl (by kernel_rfl) (by kernel_rfl) (by kernel_rfl) (fun _ _ _ h => h) (Or.inl ⟨by rfl, ?_⟩) (by assumption) ?_
      rotate_left
      · intro w hSw; go_simp; first | done | with_reducible rfl
      try simp only [Act.put, List.setIfInBounds_toArray, List.set_cons_zero, List.set_cons_succ]
      obtain ⟨q0, q1, g0, g1⟩ := HQ1.out
      refine wpAnyH_ready (rs := [9]) (by kernel_rfl) (by simp) ?_
      refine AllReadyH.cons (o := ⟨none, _, _, _, _, _⟩) rfl (fun K hK => ?_) AllReadyH.nil
      go_simp
      refine hK.out _ _ (set2_below hHeld (Nat.le_refl _) _ _) (fun hHeld => ?_)
      clear hK K
      try simp only [Act.put, List.setIfInBounds_toArray, List.set_cons_zero, List.set_cons_succ]
      refine wpAnyH_done (by kernel_rfl) ?_ _
      refine NoPanic.normal ?_
      go_wp2_with fail
      refine bodyPost_ret (v := .tuple #[.int .u64 (n : Int), .agg #[.slice (some ⟨b, o, none⟩) (0) (0), .bool b0]]) (by simp [results, Try.results36, go_sem, q0, q1]) rfl ?_
      exact ⟨n, _, _, 0, b0, by rw [HZ.out], (HB.out.trans ((hHeld).mono (by have := HCW.out; omega))), HCUT.out, HR.out, HNB.out, by rw [HZ.out]; omega⟩
    · have HA' : Hid (cutA (some ⟨b, o, none⟩) s c = some ⟨b, o + s, none⟩) := by show _ = _; unfold cutA; rw [if_neg hc0]; simp [add_plain]
      rw [HA'.out] at HCUT
      clear HA'
      go_enter Try.func36, Try.ntmps36
      go_upto_region 1 with fail
      rw [← hw0, ← hC]
      clear hw0 hC
      obtain ⟨p0, p1, _, _⟩ := HP.out
      go_wp2_with fail
      with_reducible refine HG.out.mono ?_
      rintro e w' ⟨rfl, rfl⟩
      rw [HGR.out]
      have HP1 := Lib.hid (HP.out.below (Below.refl w0.heap.size w0) (Nat.le_refl _))
      have HQ1 := Lib.hid (HQ.out.below (Below.refl w0.heap.size w0) (Nat.le_refl _))
      have k0 : ∀ v, Below (C + 1) w0 v → v.cell? ⟨C, 0, none⟩ = some (.slice (some ⟨b, o, none⟩) l.length c) := fun v h => by rw [h.cell (p := ⟨C, 0, none⟩) (by show C < C + 1; omega)]; exact HP1.out.c0
      have k1 : ∀ v, Below (C + 1) w0 v → v.cell? ⟨C, 1, none⟩ = some (.bool b0) := fun v h => by rw [h.cell (p := ⟨C, 1, none⟩) (by show C < C + 1; omega)]; exact HP1.out.c1
      clear p0 p1
      go_wp2_with fail
      refine wp_region_noPanic ?_
      refine wp_region_held_drew (S := fun v => Below (C + 1) w0 v) (by kernel_rfl) ((Below.refl _ _).drew) (fun hHeld => ?_)
      refine wpAnyH_take (i := 0) (oi := ⟨some 17, _, _, _, _, _⟩) (v := ?_) rfl (by kernel_rfl) (by kernel_rfl) (by kernel_rfl) (fun _ _ _ h => h) (Or.inl ⟨by rfl, ?_⟩) (by assumption) ?_
      rotate_left
      · intro w hSw; go_simp; first | done | with_reducible rfl
      try simp only [Act.put, List.setIfInBounds_toArray, List.set_cons_zero, List.set_cons_succ]
      refine wpAnyH_take (i := 1) (oi := ⟨some 18, _, _, _, _, _⟩) (v := ?_) rfl (by kernel_rfl) (by kernel_rfl) (by kernel_rfl) (fun _ _ _ h => h) (Or.inl ⟨by rfl, ?_⟩) (by assumption) ?_
      rotate_left
      · intro w hSw; go_simp; first | done | with_reducible rfl
      try simp only [Act.put, List.setIfInBounds_toArray, List.set_cons_zero, List.set_cons_succ]
      refine wpAnyH_take (i := 2) (oi := ⟨some 19, _, _, _, _, _⟩) (v := ?_) rfl (by kernel_rfl) (by kernel_rfl) (by kernel_rfl) (fun _ _ _ h => h) (Or.inl ⟨by rfl, ?_⟩) (by assumption) ?_
      rotate_left
      · intro w hSw; go_simp; first | done | with_reducible rfl
      try simp only [Act.put, List.setIfInBounds_toArray, List.set_cons_zero, List.set_cons_succ]
      refine wpAnyH_take (i := 3) (oi := ⟨some 20, _, _, _, _, _⟩) (v := ?_) rfl (by kernel_rfl) (by kernel_rfl) (by kernel_rfl) (fun _ _ _ h => h) (Or.inl ⟨by rfl, ?_⟩) (by assumption) ?_
      rotate_left
      · intro w hSw; go_simp; first | done | with_reducible rfl
      try simp only [Act.put, List.setIfInBounds_toArray, List.set_cons_zero, List.set_cons_succ]
      refine wpAnyH_take (i := 4) (oi := ⟨some 21, _, _, _, _, _⟩) (v := ?_) rfl (by kernel_rfl) (by kernel_rfl) (by kernel_rfl) (fun _ _ _ h => h) (Or.inl ⟨by rfl, ?_⟩) (by assumption) ?_
      rotate_left
      · intro w hSw; go_simp; first | done | with_reducible rfl
      try simp only [Act.put, List.setIfInBounds_toArray, List.set_cons_zero, List.set_cons_succ]
      refine wpAnyH_take (i := 5) (oi := ⟨some 22, _, _, _, _, _⟩) (v := ?_) rfl (by kernel_rfl) (by kernel_rfl) (by kernel_rfl) (fun _ _ _ h => h) (Or.inl ⟨by rfl, ?_⟩) (by assumption) ?_
      rotate_left
      · intro w hSw; go_simp; first | done | with_reducible rfl
      try simp only [Act.put, List.setIfInBounds_toArray, List.set_cons_zero, List.set_cons_succ]
      refine wpAnyH_take (i := 6) (oi := ⟨some 23, _, _, _, _, _⟩) (v := ?_) rfl (by kernel_rfl) (by kernel_rfl) (by kernel_rfl) (fun _ _ _ h => h) (Or.inl ⟨by rfl, ?_⟩) (by assumption) ?_
      rotate_left
      · intro w hSw; go_simp; first | done | with_reducible rfl
      try simp only [Act.put, List.setIfInBounds_toArray, List.set_cons_zero, List.set_cons_succ]
      refine wpAnyH_take (i := 7) (oi := ⟨some 24, _, _, _, _, _⟩) (v := ?_) rfl (by kernel_rfl) (by kernel_rfl) (by kernel_rfl) (fun _ _ _ h => h) (Or.inl ⟨by rfl, ?_⟩) (by assumption) ?_
      rotate_left
      · intro w hSw; go_simp; first | done | with_reducible rfl
      try simp only [Act.put, List.setIfInBounds_toArray, List.set_cons_zero, List.set_cons_succ]
      refine wpAnyH_take (i := 8) (oi := ⟨some 2, _, _, _, _, _⟩) (v := ?_) rfl (by kernel_rfl) (by kernel_rfl) (by kernel_rfl) (fun _ _ _ h => h) (Or.inl ⟨by rfl, ?_⟩) (by assumption) ?_
      rotate_left
      · intro w hSw; go_simp; first | done | with_reducible rfl
      try simp only [Act.put, List.setIfInBounds_toArray, List.set_cons_zero, List.set_cons_succ]
      obtain ⟨q0, q1, g0, g1⟩ := HQ1.out
      refine wpAnyH_ready (rs := [9]) (by kernel_rfl) (by simp) ?_
      refine AllReadyH.cons (o := ⟨none, _, _, _, _, _⟩) rfl (fun K hK => ?_) AllReadyH.nil
      go_simp
      refine hK.out _ _ (set2_below hHeld (Nat.le_refl _) _ _) (fun hHeld => ?_)
      clear hK K
      try simp only [Act.put, List.setIfInBounds_toArray, List.set_cons_zero, List.set_cons_succ]
      refine wpAnyH_done (by kernel_rfl) ?_ _
      refine NoPanic.normal ?_
      go_wp2_with fail
      refine bodyPost_ret (v := .tuple #[.int .u64 (n : Int), .agg #[.slice (some ⟨b, o + s, none⟩) (l.length - s) (c - s), .bool b0]]) (by simp [results, Try.results36, go_sem, q0, q1]) rfl ?_
      exact ⟨n, _, _, c - s, b0, by rw [HD.out], (HB.out.trans ((hHeld).mono (by have := HCW.out; omega))), HCUT.out, HR.out, HNB.out, by rw [HD.out]; omega⟩
  · have HR : Hid (nx l b0 = (0, [], true)) := nx_none (by unfold rdN; rw [if_neg he])
    obtain ⟨e1, e2, e3⟩ := get_no l he
    have HGR : Hid (getR l = .tuple #[.int .u64 0, .int .i64 0, .int .i64 (getE l : Int)]) := by show _ = _; unfold getR; rw [e2, e3]; rfl
    have hne : ((getE l : Int) != 0) = true := by rw [bne_iff_ne]; omega
    clear he e2 e3 g1 g2
    generalize getE l = E at *
    go_enter Try.func36, Try.ntmps36
    go_upto_region 1 with fail
    rw [← hw0, ← hC]
    clear hw0 hC
    obtain ⟨p0, p1, _, _⟩ := HP.out
    go_wp2_with fail
    with_reducible refine HG.out.mono ?_
    rintro e w1 ⟨rfl, rfl⟩
    rw [HGR.out]
    obtain ⟨q0, q1, g0, g1⟩ := HQ.out
    go_wp2_with fail
    refine bodyPost_ret (v := .tuple #[.int .u64 0, .agg #[.slice none 0 0, .bool true]]) (by simp [results, Try.results36, go_sem, q0, q1]) rfl ?_
    exact ⟨0, none, [], 0, true, rfl, set2_below HB.out (by have := HCW.out; omega) _ _, fun _ _ => arg_nil _, HR.out, by unfold big; omega, Nat.zero_le _⟩
set_option maxRecDepth 100000 in
set_option maxHeartbeats 4000000 in
theorem rbytes_any (A : Option Addr) (l : Bs) (c : Nat) (b0 : Bool) (w : World) (hA : Arg w A l c) (hl : l.length ≤ 2000000) :
    Calls Try.prog 37 #[.agg #[.slice A l.length c, .bool b0]] w (bxPost w A l c b0) := by
  obtain ⟨C, hC⟩ : ∃ C, C = w.heap.size := ⟨_, rfl⟩
  obtain ⟨w0, hw0⟩ : ∃ w0, w0 = (w.alloc (.cells #[.slice A l.length c, .bool b0] 74)).alloc (.cells #[.slice none 0 0, .bool false] 74) := ⟨_, rfl⟩
  have B0 : Below w.heap.size w w0 := by rw [hw0]; exact two_below _ _ _
  have HB := Lib.hid B0
  have HP : Hid (Cel w0 C (.slice A l.length c) (.bool b0)) := by show Cel _ _ _ _; rw [hw0, hC]; exact (Cel.new w _ _ _).below (alloc_below _ _) (Nat.le_refl _)
  have HQ : Hid (Cel w0 (C + 1) (.slice none 0 0) (.bool false)) := by
    have h := Cel.new (w.alloc (.cells #[.slice A l.length c, .bool b0] 74)) (.slice none 0 0) (.bool false) 74
    have e : (w.alloc (.cells #[.slice A l.length c, .bool b0] 74)).heap.size = C + 1 := by rw [hC]; simp
    rw [e] at h
    show Cel _ _ _ _
    rw [hw0]; exact h
  have HS0 : Hid (w0.heap.size = C + 2) := by show _ = _; rw [hw0, hC]; simp
  have HCW := Lib.hid hC
  have HA0 := Lib.hid (arg_below hA B0 (Nat.le_refl _))
  clear B0
  have HG := Lib.hid (rgetB_any A l c 65536 w0 HA0.out.rd (by omega) HA0.out.le (by omega) (by omega))
  unfold partPost at HG
  by_cases he : (partV l 65536).2.2 = 0
  · have HR : Hid (bx l b0 = ((partV l 65536).1, l.drop (partV l 65536).2.1, b0)) := bx_some (by unfold rdS; rw [if_pos he])
    have hpos := Vs.part_has he
    obtain ⟨g1, g2⟩ := part_size l 65536
    have HCUT := Lib.hid (fun W (h : Arg W A l c) => arg_cut h (partV l 65536).2.1 g1)
    have HPP := Lib.hid he
    generalize (partV l 65536).2.2 = er at *
    generalize (partV l 65536).2.1 = s at *
    generalize (partV l 65536).1 = p at *
    obtain ⟨b, o, rfl, _, _⟩ := hA.rd hpos
    have hle := hA.le; have hmx := hA.max
    unfold maxLen at hmx
    have hd : (l.drop s).length = l.length - s := List.length_drop
    have HD := Lib.hid hd
    clear he hA hd hpos
    by_cases hc0 : c = s
    · have HA' : Hid (cutA (some ⟨b, o, none⟩) s c = some ⟨b, o, none⟩) := by show _ = _; unfold cutA; rw [if_pos hc0]
      rw [HA'.out] at HCUT
      subst hc0
      rw [Nat.sub_self] at HCUT
      have HZ : Hid ((l.drop c).length = 0) := by show _ = _; rw [HD.out]; omega
      clear HA'
      go_enter Try.func37, Try.ntmps37
      go_upto_region 1 with fail
      rw [← hw0, ← hC]
      clear hw0 hC
      obtain ⟨p0, p1, _, _⟩ := HP.out
      go_wp2_with fail
      with_reducible refine HG.out.mono ?_
      rintro e w1 ⟨v1, rfl, h1, b1⟩
      rw [HPP.out]
      have B1 := Lib.hid b1
      have H1 := Lib.hid h1
      obtain ⟨P1, pc1, sp⟩ := own_shape h1
      obtain rfl := sp.val
      clear sp h1 b1
      have HP1 := Lib.hid (HP.out.below B1.out (Nat.le_refl _))
      have HQ1 := Lib.hid (HQ.out.below B1.out (Nat.le_refl _))
      have k0 : ∀ v, Below (C + 1) w1 v → v.cell? ⟨C, 0, none⟩ = some (.slice (some ⟨b, o, none⟩) l.length c) := fun v h => by rw [h.cell (p := ⟨C, 0, none⟩) (by show C < C + 1; omega)]; exact HP1.out.c0
      have k1 : ∀ v, Below (C + 1) w1 v → v.cell? ⟨C, 1, none⟩ = some (.bool b0) := fun v h => by rw [h.cell (p := ⟨C, 1, none⟩) (by show C < C + 1; omega)]; exact HP1.out.c1
      clear p0 p1
      go_wp2_with fail
      refine wp_region_noPanic ?_
      refine wp_region_held_drew (S := fun v => Below (C + 1) w1 v) (by kernel_rfl) ((Below.refl _ _).drew) (fun hHeld => ?_)
      refine wpAnyH_take (i := 0) (oi := ⟨some 17, _, _, _, _, _⟩) (v := ?_) rfl (by kernel_rfl) (by kernel_rfl) (by kernel_rfl) (fun _ _ _ h => h) (Or.inl ⟨by rfl, ?_⟩) (by assumption) ?_
      rotate_left
      · intro w hSw; go_simp; first | done | with_reducible rfl
      try simp only [Act.put, List.setIfInBounds_toArray, List.set_cons_zero, List.set_cons_succ]
      refine wpAnyH_take (i := 1) (oi := ⟨some 18, _, _, _, _, _⟩) (v := ?_) rfl (by kernel_rfl) (by kernel_rfl) (by kernel_rfl) (fun _ _ _ h => h) (Or.inl ⟨by rfl, ?_⟩) (by assumption) ?_
      rotate_left
      · intro w hSw; go_simp; first | done | with_reducible rfl
      try simp only [Act.put, List.setIfInBounds_toArray, List.set_cons_zero, List.set_cons_succ]
      refine wpAnyH_take (i := 2) (oi := ⟨some 19, _, _, _, _, _⟩) (v := ?_) rfl (by kernel_rfl) (by kernel_rfl) (by kernel_rfl) (fun _ _ _ h => h) (Or.inl ⟨by rfl, ?_⟩) (by assumption) ?_
      rotate_left
      · intro w hSw; go_simp; first | done | with_reducible rfl
      try simp only [Act.put, List.setIfInBounds_toArray, List.set_cons_zero, List.set_cons_succ]
      refine wpAnyH_take (i := 3) (oi := ⟨some 20, _, _, _, _, _⟩) (v := ?_) rfl (by kernel_rfl) (by kernel_rfl) (by kernel_rfl) (fun _ _ _ h => h) (Or.inl ⟨by rfl, ?_⟩) (by assumption) ?_
      rotate_left
      · intro w hSw; go_simp; first | done | with_reducible rfl
      try simp only [Act.put, List.setIfInBounds_toArray, List.set_cons_zero, List.set_cons_succ]
      refine wpAnyH_take (i := 4) (oi := ⟨some 21, _, _, _, _, _⟩) (v := ?_) rfl (by kernel_rfl) (by kernel_rfl) (by kernel_rfl) (fun _ _ _ h => h) (Or.inl ⟨by rfl, ?_⟩) (by assumption) ?_
      rotate_left
      · intro w hSw; go_simp; first | done | with_reducible rfl
      try simp only [Act.put, List.setIfInBounds_toArray, List.set_cons_zero, List.set_cons_succ]
      refine wpAnyH_take (i := 5) (oi := ⟨some 22, _, _, _, _, _⟩) (v := ?_) rfl (by kernel_rfl) (by kernel_rfl) (by kernel_rfl) (fun _ _ _ h => h) (Or.inl ⟨by rfl, ?_⟩) (by assumption) ?_
      rotate_left
      · intro w hSw; go_simp; first | done | with_reducible rfl
      try simp only [Act.put, List.setIfInBounds_toArray, List.set_cons_zero, List.set_cons_succ]
      refine wpAnyH_take (i := 6) (oi := ⟨some 23, _, _, _, _, _⟩) (v := ?_) rfl (by kernel_rfl) (by kernel_rfl) (by kernel_rfl) (fun _ _ _ h => h) (Or.inl ⟨by rfl, ?_⟩) (by assumption) ?_
      rotate_left
      · intro w hSw; go_simp; first | done | with_reducible rfl
      try simp only [Act.put, List.setIfInBounds_toArray, List.set_cons_zero, List.set_cons_succ]
      refine wpAnyH_take (i := 7) (oi := ⟨some 24, _, _, _, _, _⟩) (v := ?_) rfl (by kernel_rfl) (by kernel_rfl) (by kernel_rfl) (fun _ _ _ h => h) (Or.inl ⟨by rfl, ?_⟩) (by assumption) ?_
      rotate_left
      · intro w hSw; go_simp; first | done | with_reducible rfl
      try simp only [Act.put, List.setIfInBounds_toArray, List.set_cons_zero, List.set_cons_succ]
      refine wpAnyH_take (i := 8) (oi := ⟨some 2, _, _, _, _, _⟩) (v := ?_) rfl (by kernel_rfl) (by kernel_rfl) (by kernel_rfl) (fun _ _ _ h => h) (Or.inl ⟨by rfl, ?_⟩) (by assumption) ?_
      rotate_left
      · intro w hSw; go_simp; first | done | with_reducible rfl
      try simp only [Act.put, List.setIfInBounds_toArray, List.set_cons_zero, List.set_cons_succ]
      obtain ⟨q0, q1, g0, g1⟩ := HQ1.out
      refine wpAnyH_ready (rs := [9]) (by kernel_rfl) (by simp) ?_
      refine AllReadyH.cons (o := ⟨none, _, _, _, _, _⟩) rfl (fun K hK => ?_) AllReadyH.nil
      go_simp
      refine hK.out _ _ (set2_below hHeld (Nat.le_refl _) _ _) (fun hHeld => ?_)
      clear hK K
      try simp only [Act.put, List.setIfInBounds_toArray, List.set_cons_zero, List.set_cons_succ]
      refine wpAnyH_done (by kernel_rfl) ?_ _
      refine NoPanic.normal ?_
      go_wp2_with fail
      refine bodyPost_ret (v := .tuple #[.slice P1 p.length pc1, .agg #[.slice (some ⟨b, o, none⟩) (0) (0), .bool b0]]) (by simp [results, Try.results37, go_sem, q0, q1]) rfl ?_
      exact ⟨_, p, _, _, 0, b0, by rw [HZ.out], own_base (own_only (F := fun j => j = C + 1) H1.out (set2 w1 (C + 1) _ _).drew (fun j hj e => by have := HS0.out; omega)) HB.out.size, ((HB.out.trans (B1.out.mono HB.out.size)).trans (hHeld.mono (by have := HCW.out; omega))), HCUT.out, HR.out, g2, by rw [HZ.out]; omega⟩
    · have HA' : Hid (cutA (some ⟨b, o, none⟩) s c = some ⟨b, o + s, none⟩) := by show _ = _; unfold cutA; rw [if_neg hc0]; simp [add_plain]
      rw [HA'.out] at HCUT
      clear HA'
      go_enter Try.func37, Try.ntmps37
      go_upto_region 1 with fail
      rw [← hw0, ← hC]
      clear hw0 hC
      obtain ⟨p0, p1, _, _⟩ := HP.out
      go_wp2_with fail
      with_reducible refine HG.out.mono ?_
      rintro e w1 ⟨v1, rfl, h1, b1⟩
      rw [HPP.out]
      have B1 := Lib.hid b1
      have H1 := Lib.hid h1
      obtain ⟨P1, pc1, sp⟩ := own_shape h1
      obtain rfl := sp.val
      clear sp h1 b1
      have HP1 := Lib.hid (HP.out.below B1.out (Nat.le_refl _))
      have HQ1 := Lib.hid (HQ.out.below B1.out (Nat.le_refl _))
      have k0 : ∀ v, Below (C + 1) w1 v → v.cell? ⟨C, 0, none⟩ = some (.slice (some ⟨b, o, none⟩) l.length c) := fun v h => by rw [h.cell (p := ⟨C, 0, none⟩) (by show C < C + 1; omega)]; exact HP1.out.c0
      have k1 : ∀ v, Below (C + 1) w1 v → v.cell? ⟨C, 1, none⟩ = some (.bool b0) := fun v h => by rw [h.cell (p := ⟨C, 1, none⟩) (by show C < C + 1; omega)]; exact HP1.out.c1
      clear p0 p1
      go_wp2_with fail
      refine wp_region_noPanic ?_
      refine wp_region_held_drew (S := fun v => Below (C + 1) w1 v) (by kernel_rfl) ((Below.refl _ _).drew) (fun hHeld => ?_)
      refine wpAnyH_take (i := 0) (oi := ⟨some 17, _, _, _, _, _⟩) (v := ?_) rfl (by kernel_rfl) (by kernel_rfl) (by kernel_rfl) (fun _ _ _ h => h) (Or.inl ⟨by rfl, ?_⟩) (by assumption) ?_
      rotate_left
      · intro w hSw; go_simp; first | done | with_reducible rfl
      try simp only [Act.put, List.setIfInBounds_toArray, List.set_cons_zero, List.set_cons_succ]
      refine wpAnyH_take (i := 1) (oi := ⟨some 18, _, _, _, _, _⟩) (v := ?_) rfl (by kernel_rfl) (by kernel_rfl) (by kernel_rfl) (fun _ _ _ h => h) (Or.inl ⟨by rfl, ?_⟩) (by assumption) ?_
      rotate_left
      · intro w hSw; go_simp; first | done | with_reducible rfl
      try simp only [Act.put, List.setIfInBounds_toArray, List.set_cons_zero, List.set_cons_succ]
      refine wpAnyH_take (i := 2) (oi := ⟨some 19, _, _, _, _, _⟩) (v := ?_) rfl (by kernel_rfl) (by kernel_rfl) (by kernel_rfl) (fun _ _ _ h => h) (Or.inl ⟨by rfl, ?_⟩) (by assumption) ?_
      rotate_left
      · intro w hSw; go_simp; first | done | with_reducible rfl
      try simp only [Act.put, List.setIfInBounds_toArray, List.set_cons_zero, List.set_cons_succ]
      refine wpAnyH_take (i := 3) (oi := ⟨some 20, _, _, _, _, _⟩) (v := ?_) rfl (by kernel_rfl) (by kernel_rfl) (by kernel_rfl) (fun _ _ _ h => h) (Or.inl ⟨by rfl, ?_⟩) (by assumption) ?_
      rotate_left
      · intro w hSw; go_simp; first | done | with_reducible rfl
      try simp only [Act.put, List.setIfInBounds_toArray, List.set_cons_zero, List.set_cons_succ]
      refine wpAnyH_take (i := 4) (oi := ⟨some 21, _, _, _, _, _⟩) (v := ?_) rfl (by kernel_rfl) (by kernel_rfl) (by kernel_rfl) (fun _ _ _ h => h) (Or.inl ⟨by rfl, ?_⟩) (by assumption) ?_
      rotate_left
      · intro w hSw; go_simp; first | done | with_reducible rfl
      try simp only [Act.put, List.setIfInBounds_toArray, List.set_cons_zero, List.set_cons_succ]
      refine wpAnyH_take (i := 5) (oi := ⟨some 22, _, _, _, _, _⟩) (v := ?_) rfl (by kernel_rfl) (by kernel_rfl) (by kernel_rfl) (fun _ _ _ h => h) (Or.inl ⟨by rfl, ?_⟩) (by assumption) ?_
      rotate_left
      · intro w hSw; go_simp; first | done | with_reducible rfl
      try simp only [Act.put, List.setIfInBounds_toArray, List.set_cons_zero, List.set_cons_succ]
      refine wpAnyH_take (i := 6) (oi := ⟨some 23, _, _, _, _, _⟩) (v := ?_) rfl (by kernel_rfl) (by kernel_rfl) (by kernel_rfl) (fun _ _ _ h => h) (Or.inl ⟨by rfl, ?_⟩) (by assumption) ?_
      rotate_left
      · intro w hSw; go_simp; first | done | with_reducible rfl
      try simp only [Act.put, List.setIfInBounds_toArray, List.set_cons_zero, List.set_cons_succ]
      refine wpAnyH_take (i := 7) (oi := ⟨some 24, _, _, _, _, _⟩) (v := ?_) rfl (by kernel_rfl) (by kernel_rfl) (by kernel_rfl) (fun _ _ _ h => h) (Or.inl ⟨by rfl, ?_⟩) (by assumption) ?_
      rotate_left
      · intro w hSw; go_simp; first | done | with_reducible rfl
      try simp only [Act.put, List.setIfInBounds_toArray, List.set_cons_zero, List.set_cons_succ]
      refine wpAnyH_take (i := 8) (oi := ⟨some 2, _, _, _, _, _⟩) (v := ?_) rfl (by kernel_rfl) (by kernel_rfl) (by kernel_rfl) (fun _ _ _ h => h) (Or.inl ⟨by rfl, ?_⟩) (by assumption) ?_
      rotate_left
      · intro w hSw; go_simp; first | done | with_reducible rfl
      try simp only [Act.put, List.setIfInBounds_toArray, List.set_cons_zero, List.set_cons_succ]
      obtain ⟨q0, q1, g0, g1⟩ := HQ1.out
      refine wpAnyH_ready (rs := [9]) (by kernel_rfl) (by simp) ?_
      refine AllReadyH.cons (o := ⟨none, _, _, _, _, _⟩) rfl (fun K hK => ?_) AllReadyH.nil
      go_simp
      refine hK.out _ _ (set2_below hHeld (Nat.le_refl _) _ _) (fun hHeld => ?_)
      clear hK K
      try simp only [Act.put, List.setIfInBounds_toArray, List.set_cons_zero, List.set_cons_succ]
      refine wpAnyH_done (by kernel_rfl) ?_ _
      refine NoPanic.normal ?_
      go_wp2_with fail
      refine bodyPost_ret (v := .tuple #[.slice P1 p.length pc1, .agg #[.slice (some ⟨b, o + s, none⟩) (l.length - s) (c - s), .bool b0]]) (by simp [results, Try.results37, go_sem, q0, q1]) rfl ?_
      exact ⟨_, p, _, _, c - s, b0, by rw [HD.out], own_base (own_only (F := fun j => j = C + 1) H1.out (set2 w1 (C + 1) _ _).drew (fun j hj e => by have := HS0.out; omega)) HB.out.size, ((HB.out.trans (B1.out.mono HB.out.size)).trans (hHeld.mono (by have := HCW.out; omega))), HCUT.out, HR.out, g2, by rw [HD.out]; omega⟩
  · have HR : Hid (bx l b0 = ([], [], true)) := bx_none (by unfold rdS; rw [if_neg he])
    obtain ⟨e2, e3⟩ := Vs.part_zero he
    have hne : (((partV l 65536).2.2 : Int) != 0) = true := by rw [bne_iff_ne]; omega
    rw [e2, e3] at HG
    clear he e2 e3
    generalize (partV l 65536).2.2 = E at *
    go_enter Try.func37, Try.ntmps37
    go_upto_region 1 with fail
    rw [← hw0, ← hC]
    clear hw0 hC
    obtain ⟨p0, p1, _, _⟩ := HP.out
    go_wp2_with fail
    with_reducible refine HG.out.mono ?_
    rintro e w1 ⟨v1, rfl, h1, b1⟩
    have B1 := Lib.hid b1
    obtain ⟨P1, pc1, sp⟩ := own_shape h1
    obtain rfl := sp.val
    obtain ⟨q0, q1, g0, g1⟩ := HQ.out.below B1.out (Nat.le_refl _)
    clear sp h1 b1
    go_wp2_with fail
    refine bodyPost_ret (v := .tuple #[.slice none 0 0, .agg #[.slice none 0 0, .bool true]]) (by simp [results, Try.results37, go_sem, q0, q1]) rfl ?_
    exact ⟨_, [], none, [], 0, true, rfl, own_nil _ _, set2_below (HB.out.trans (B1.out.mono HB.out.size)) (by have := HCW.out; omega) _ _, fun _ _ => arg_nil _, HR.out, Nat.zero_le _, Nat.zero_le _⟩
end Go.Proofs.Ythlfahblnpijaaa.Sn
