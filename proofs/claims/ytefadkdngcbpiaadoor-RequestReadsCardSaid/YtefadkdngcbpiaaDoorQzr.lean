/- Proves that the law RequestReads returns true. Conditions: the table is laid; an argument's bytes read. -/
import Derived.Test.YtefadkdngcbpiaaDoorQj
import Derived.Test.YtefadkdngcbpiaaDoorVpr
import Derived.Test.YtefadkdngcbpiaaDoorVsa
import Derived.Test.YtefadkdngcbpiaaDoorQg
import Derived.Test.YtefadkdngcbpiaaDoorQl
import Derived.Deep.RegionHeld3
namespace Go.Proofs.YtefadkdngcbpiaaDoor.Qzd
open Go.RowKit Vm Ap Vw Va Vg Vgr Vp Vpr Gc Mi Mb Qm Qs Qe

def numPost (w : World) (A0 : Option Addr) (l : Bs) (c0 : Nat) : Ending → World → Prop := fun e w' =>
  ∃ n A r c b, e = .returned (.tuple #[.int .u64 ((n : Nat) : Int), .slice A (r : Bs).length c, .bool b]) ∧ Below w.heap.size w w' ∧ (∀ W, Arg W A0 l c0 → Arg W A r c) ∧ rdN l = (if b then some (n, r) else none) ∧ n < big ∧ r.length ≤ l.length
set_option maxRecDepth 100000 in
set_option maxHeartbeats 4000000 in
theorem rnum_any (A : Option Addr) (l : Bs) (c : Nat) (w : World) (hA : Arg w A l c) (hl : l.length ≤ 2000000) :
    Calls Tryd.prog 58 #[.slice A l.length c] w (numPost w A l c) := by
  have HG := Lib.hid (rget_any A l c w hA.rd (by omega))
  obtain ⟨g1, g2, _⟩ := get_lt l
  by_cases he : getE l = 0
  · have HR : Hid (rdN l = some (getN l, l.drop (getS l))) := by show _ = _; unfold rdN; rw [if_pos he]
    have hpos : 0 < l.length := by
      have := (get_has l he).1
      have := enc_pos (getN l)
      omega
    have HGR : Hid (getR l = .tuple #[.int .u64 (getN l : Int), .int .i64 (getS l : Int), .int .i64 0]) := by show _ = _; unfold getR; rw [he]; rfl
    have HCUT := Lib.hid (fun W (h : Arg W A l c) => arg_cut h (getS l) g2)
    have HNB : Hid (getN l < big) := g1
    unfold big at g1
    generalize getN l = n at *
    generalize getS l = s at *
    obtain ⟨b, o, rfl, _, _⟩ := hA.rd hpos
    have hle := hA.le; have hmx := hA.max
    unfold maxLen at hmx
    have hd : (l.drop s).length = l.length - s := List.length_drop
    have HD := Lib.hid hd
    clear he hA hd
    by_cases hc0 : c = s
    · have HA' : Hid (cutA (some ⟨b, o, none⟩) s c = some ⟨b, o, none⟩) := by show _ = _; unfold cutA; rw [if_pos hc0]
      rw [HA'.out] at HCUT
      subst hc0
      rw [Nat.sub_self] at HCUT
      have HZ : Hid ((l.drop c).length = 0) := by show _ = _; rw [HD.out]; omega
      clear HA'
      go_enter Tryd.func58, Tryd.ntmps58
      go_wp2_with fail
      with_reducible refine HG.out.mono ?_
      rintro e w' ⟨rfl, rfl⟩
      rw [HGR.out]
      go_wp2_with fail
      refine wp_region_noPanic ?_
      refine wp_region_held_drew (S := fun v => Below w.heap.size w v) (by kernel_rfl) ((Below.refl _ _).drew) (fun hHeld => ?_)
      refine wpAnyH_take (i := 0) (oi := ⟨some 16, _, _, _, _, _⟩) (v := ?_) rfl (by kernel_rfl) (by kernel_rfl) (by kernel_rfl) (fun _ _ _ h => h) (Or.inl ⟨by rfl, ?_⟩) (by assumption) ?_
      rotate_left
      · intro w hSw; go_simp; first | done | with_reducible rfl
      try simp only [Act.put, List.setIfInBounds_toArray, List.set_cons_zero, List.set_cons_succ]
      refine wpAnyH_take (i := 1) (oi := ⟨some 17, _, _, _, _, _⟩) (v := ?_) rfl (by kernel_rfl) (by kernel_rfl) (by kernel_rfl) (fun _ _ _ h => h) (Or.inl ⟨by rfl, ?_⟩) (by assumption) ?_
      rotate_left
      · intro w hSw; go_simp; first | done | with_reducible rfl
      try simp only [Act.put, List.setIfInBounds_toArray, List.set_cons_zero, List.set_cons_succ]
      refine wpAnyH_take (i := 2) (oi := ⟨some 18, _, _, _, _, _⟩) (v := ?_) rfl (by kernel_rfl) (by kernel_rfl) (by kernel_rfl) (fun _ _ _ h => h) (Or.inl ⟨by rfl, ?_⟩) (by assumption) ?_
      rotate_left
      · intro w hSw; go_simp; first | done | with_reducible rfl
      try simp only [Act.put, List.setIfInBounds_toArray, List.set_cons_zero, List.set_cons_succ]
      refine wpAnyH_take (i := 3) (oi := ⟨some 19, _, _, _, _, _⟩) (v := ?_) rfl (by kernel_rfl) (by kernel_rfl) (by kernel_rfl) (fun _ _ _ h => h) (Or.inl ⟨by rfl, ?_⟩) (by assumption) ?_
      rotate_left
      · intro w hSw; go_simp; first | done | with_reducible rfl
      try simp only [Act.put, List.setIfInBounds_toArray, List.set_cons_zero, List.set_cons_succ]
      refine wpAnyH_take (i := 4) (oi := ⟨some 2, _, _, _, _, _⟩) (v := ?_) rfl (by kernel_rfl) (by kernel_rfl) (by kernel_rfl) (fun _ _ _ h => h) (Or.inl ⟨by rfl, ?_⟩) (by assumption) ?_
      rotate_left
      · intro w hSw; go_simp; first | done | with_reducible rfl
      try simp only [Act.put, List.setIfInBounds_toArray, List.set_cons_zero, List.set_cons_succ]
      refine wpAnyH_take (i := 5) (oi := ⟨some 3, _, _, _, _, _⟩) (v := ?_) rfl (by kernel_rfl) (by kernel_rfl) (by kernel_rfl) (fun _ _ _ h => h) (Or.inl ⟨by rfl, ?_⟩) (by assumption) ?_
      rotate_left
      · intro w hSw; go_simp; first | done | with_reducible rfl
      try simp only [Act.put, List.setIfInBounds_toArray, List.set_cons_zero, List.set_cons_succ]
      refine wpAnyH_take (i := 6) (oi := ⟨some 4, _, _, _, _, _⟩) (v := ?_) rfl (by kernel_rfl) (by kernel_rfl) (by kernel_rfl) (fun _ _ _ h => h) (Or.inl ⟨by rfl, ?_⟩) (by assumption) ?_
      rotate_left
      · intro w hSw; go_simp; first | done | with_reducible rfl
      try simp only [Act.put, List.setIfInBounds_toArray, List.set_cons_zero, List.set_cons_succ]
      refine wpAnyH_done (by kernel_rfl) ?_ _
      refine NoPanic.normal ?_
      go_wp2_with fail
      go_ret3
      exact ⟨n, _, _, 0, true, by rw [HZ.out]; rfl, hHeld, HCUT.out, HR.out, HNB.out, by rw [HZ.out]; omega⟩
    · have HA' : Hid (cutA (some ⟨b, o, none⟩) s c = some ⟨b, o + s, none⟩) := by show _ = _; unfold cutA; rw [if_neg hc0]; simp [add_plain]
      rw [HA'.out] at HCUT
      go_enter Tryd.func58, Tryd.ntmps58
      go_wp2_with fail
      with_reducible refine HG.out.mono ?_
      rintro e w' ⟨rfl, rfl⟩
      rw [HGR.out]
      go_wp2_with fail
      refine wp_region_noPanic ?_
      refine wp_region_held_drew (S := fun v => Below w.heap.size w v) (by kernel_rfl) ((Below.refl _ _).drew) (fun hHeld => ?_)
      refine wpAnyH_take (i := 0) (oi := ⟨some 16, _, _, _, _, _⟩) (v := ?_) rfl (by kernel_rfl) (by kernel_rfl) (by kernel_rfl) (fun _ _ _ h => h) (Or.inl ⟨by rfl, ?_⟩) (by assumption) ?_
      rotate_left
      · intro w hSw; go_simp; first | done | with_reducible rfl
      try simp only [Act.put, List.setIfInBounds_toArray, List.set_cons_zero, List.set_cons_succ]
      refine wpAnyH_take (i := 1) (oi := ⟨some 17, _, _, _, _, _⟩) (v := ?_) rfl (by kernel_rfl) (by kernel_rfl) (by kernel_rfl) (fun _ _ _ h => h) (Or.inl ⟨by rfl, ?_⟩) (by assumption) ?_
      rotate_left
      · intro w hSw; go_simp; first | done | with_reducible rfl
      try simp only [Act.put, List.setIfInBounds_toArray, List.set_cons_zero, List.set_cons_succ]
      refine wpAnyH_take (i := 2) (oi := ⟨some 18, _, _, _, _, _⟩) (v := ?_) rfl (by kernel_rfl) (by kernel_rfl) (by kernel_rfl) (fun _ _ _ h => h) (Or.inl ⟨by rfl, ?_⟩) (by assumption) ?_
      rotate_left
      · intro w hSw; go_simp; first | done | with_reducible rfl
      try simp only [Act.put, List.setIfInBounds_toArray, List.set_cons_zero, List.set_cons_succ]
      refine wpAnyH_take (i := 3) (oi := ⟨some 19, _, _, _, _, _⟩) (v := ?_) rfl (by kernel_rfl) (by kernel_rfl) (by kernel_rfl) (fun _ _ _ h => h) (Or.inl ⟨by rfl, ?_⟩) (by assumption) ?_
      rotate_left
      · intro w hSw; go_simp; first | done | with_reducible rfl
      try simp only [Act.put, List.setIfInBounds_toArray, List.set_cons_zero, List.set_cons_succ]
      refine wpAnyH_take (i := 4) (oi := ⟨some 2, _, _, _, _, _⟩) (v := ?_) rfl (by kernel_rfl) (by kernel_rfl) (by kernel_rfl) (fun _ _ _ h => h) (Or.inl ⟨by rfl, ?_⟩) (by assumption) ?_
      rotate_left
      · intro w hSw; go_simp; first | done | with_reducible rfl
      try simp only [Act.put, List.setIfInBounds_toArray, List.set_cons_zero, List.set_cons_succ]
      refine wpAnyH_take (i := 5) (oi := ⟨some 3, _, _, _, _, _⟩) (v := ?_) rfl (by kernel_rfl) (by kernel_rfl) (by kernel_rfl) (fun _ _ _ h => h) (Or.inl ⟨by rfl, ?_⟩) (by assumption) ?_
      rotate_left
      · intro w hSw; go_simp; first | done | with_reducible rfl
      try simp only [Act.put, List.setIfInBounds_toArray, List.set_cons_zero, List.set_cons_succ]
      refine wpAnyH_take (i := 6) (oi := ⟨some 4, _, _, _, _, _⟩) (v := ?_) rfl (by kernel_rfl) (by kernel_rfl) (by kernel_rfl) (fun _ _ _ h => h) (Or.inl ⟨by rfl, ?_⟩) (by assumption) ?_
      rotate_left
      · intro w hSw; go_simp; first | done | with_reducible rfl
      try simp only [Act.put, List.setIfInBounds_toArray, List.set_cons_zero, List.set_cons_succ]
      refine wpAnyH_done (by kernel_rfl) ?_ _
      refine NoPanic.normal ?_
      go_wp2_with fail
      go_ret3
      exact ⟨n, _, _, c - s, true, by rw [HD.out]; rfl, hHeld, HCUT.out, HR.out, HNB.out, by rw [HD.out]; omega⟩
  · have HR : Hid (rdN l = none) := by show _ = _; unfold rdN; rw [if_neg he]
    obtain ⟨e1, e2, e3⟩ := get_no l he
    have HGR : Hid (getR l = .tuple #[.int .u64 0, .int .i64 0, .int .i64 (getE l : Int)]) := by show _ = _; unfold getR; rw [e2, e3]; rfl
    have hne : ((getE l : Int) != 0) = true := by rw [bne_iff_ne]; omega
    clear he e2 e3 g1 g2
    generalize getE l = E at *
    go_enter Tryd.func58, Tryd.ntmps58
    go_wp2_with fail
    with_reducible refine HG.out.mono ?_
    rintro e w' ⟨rfl, rfl⟩
    rw [HGR.out]
    go_wp2_with fail
    go_ret3
    exact ⟨0, none, [], 0, false, rfl, Below.refl _ _, (fun _ _ => ⟨Rb.nil _ _, Nat.le_refl _, by unfold maxLen; omega, fun _ => rfl⟩), HR.out, by unfold big; omega, Nat.zero_le _⟩
def textPost (w : World) (A0 : Option Addr) (l : Bs) (c0 : Nat) : Ending → World → Prop := fun e w' =>
  ∃ s A r c b, e = .returned (.tuple #[.string ⟨(s : Bs).toArray⟩, .slice A (r : Bs).length c, .bool b]) ∧ Below w.heap.size w w' ∧ (∀ W, Arg W A0 l c0 → Arg W A r c) ∧ rdS l = (if b then some (s, r) else none) ∧ s.length ≤ l.length ∧ r.length ≤ l.length
set_option maxRecDepth 100000 in
set_option maxHeartbeats 4000000 in
theorem rtext_any (A : Option Addr) (l : Bs) (c : Nat) (w : World) (hA : Arg w A l c) (hl : l.length ≤ 1000000) :
    Calls Tryd.prog 60 #[.slice A l.length c] w (textPost w A l c) := by
  have HG := Lib.hid (rgetB_any A l c 65536 w hA.rd (by omega) hA.le (by omega) (by omega))
  unfold partPost at HG
  by_cases he : (partV l 65536).2.2 = 0
  · have HR : Hid (rdS l = some ((partV l 65536).1, l.drop (partV l 65536).2.1)) := by show _ = _; unfold rdS; rw [if_pos he]
    have hpos := Vs.part_has he
    obtain ⟨g1, g2⟩ := part_size l 65536
    have HCUT := Lib.hid (fun W (h : Arg W A l c) => arg_cut h (partV l 65536).2.1 g1)
    have HP := Lib.hid he
    generalize (partV l 65536).2.2 = er at *
    generalize (partV l 65536).2.1 = s at *
    generalize hpp : (partV l 65536).1 = p at *
    obtain ⟨b, o, rfl, _, _⟩ := hA.rd hpos
    have hle := hA.le; have hmx := hA.max
    unfold maxLen at hmx
    have hd : (l.drop s).length = l.length - s := List.length_drop
    have HD := Lib.hid hd
    clear he hA hd hpp
    by_cases hc0 : c = s
    · have HA' : Hid (cutA (some ⟨b, o, none⟩) s c = some ⟨b, o, none⟩) := by show _ = _; unfold cutA; rw [if_pos hc0]
      rw [HA'.out] at HCUT
      subst hc0
      rw [Nat.sub_self] at HCUT
      have HZ : Hid ((l.drop c).length = 0) := by show _ = _; rw [HD.out]; omega
      clear HA'
      go_enter Tryd.func60, Tryd.ntmps60
      go_wp2_with fail
      with_reducible refine HG.out.mono ?_
      rintro e w' ⟨v1, rfl, h1, b1⟩
      rw [HP.out]
      obtain ⟨P, pc, sp⟩ := own_shape h1
      obtain rfl := sp.val
      have CV : ∀ v, Below w'.heap.size w' v → (convert 24 9 (.slice P p.length pc)).run Tryd.prog v = .ok (.string ⟨p.toArray⟩) v := fun v h => conv_str pc (sp.rd.below h (Nat.le_refl _))
      have B1 := Lib.hid b1
      clear sp h1 b1
      go_wp2_with fail
      refine wp_region_noPanic ?_
      refine wp_region_held_drew (S := fun v => Below w'.heap.size w' v) (by kernel_rfl) ((Below.refl _ _).drew) (fun hHeld => ?_)
      refine wpAnyH_take (i := 0) (oi := ⟨some 16, _, _, _, _, _⟩) (v := ?_) rfl (by kernel_rfl) (by kernel_rfl) (by kernel_rfl) (fun _ _ _ h => h) (Or.inl ⟨by rfl, ?_⟩) (by assumption) ?_
      rotate_left
      · intro w hSw; go_simp; first | done | with_reducible rfl
      try simp only [Act.put, List.setIfInBounds_toArray, List.set_cons_zero, List.set_cons_succ]
      refine wpAnyH_take (i := 1) (oi := ⟨some 17, _, _, _, _, _⟩) (v := ?_) rfl (by kernel_rfl) (by kernel_rfl) (by kernel_rfl) (fun _ _ _ h => h) (Or.inl ⟨by rfl, ?_⟩) (by assumption) ?_
      rotate_left
      · intro w hSw; go_simp; first | done | with_reducible rfl
      try simp only [Act.put, List.setIfInBounds_toArray, List.set_cons_zero, List.set_cons_succ]
      refine wpAnyH_take (i := 2) (oi := ⟨some 18, _, _, _, _, _⟩) (v := ?_) rfl (by kernel_rfl) (by kernel_rfl) (by kernel_rfl) (fun _ _ _ h => h) (Or.inl ⟨by rfl, ?_⟩) (by assumption) ?_
      rotate_left
      · intro w hSw; go_simp; first | done | with_reducible rfl
      try simp only [Act.put, List.setIfInBounds_toArray, List.set_cons_zero, List.set_cons_succ]
      refine wpAnyH_take (i := 3) (oi := ⟨some 19, _, _, _, _, _⟩) (v := ?_) rfl (by kernel_rfl) (by kernel_rfl) (by kernel_rfl) (fun _ _ _ h => h) (Or.inl ⟨by rfl, ?_⟩) (by assumption) ?_
      rotate_left
      · intro w hSw; go_simp; first | done | with_reducible rfl
      try simp only [Act.put, List.setIfInBounds_toArray, List.set_cons_zero, List.set_cons_succ]
      refine wpAnyH_take (i := 4) (oi := ⟨some 20, _, _, _, _, _⟩) (v := ?_) rfl (by kernel_rfl) (by kernel_rfl) (by kernel_rfl) (fun _ _ _ h => h) (Or.inl ⟨by rfl, ?_⟩) (by assumption) ?_
      rotate_left
      · intro w hSw; go_simp; first | done | with_reducible rfl
      try simp only [Act.put, List.setIfInBounds_toArray, List.set_cons_zero, List.set_cons_succ]
      refine wpAnyH_take (i := 5) (oi := ⟨some 2, _, _, _, _, _⟩) (v := ?_) rfl (by kernel_rfl) (by kernel_rfl) (by kernel_rfl) (fun _ _ _ h => h) (Or.inl ⟨by rfl, ?_⟩) (by assumption) ?_
      rotate_left
      · intro w hSw; go_simp; first | done | with_reducible rfl
      try simp only [Act.put, List.setIfInBounds_toArray, List.set_cons_zero, List.set_cons_succ]
      refine wpAnyH_take (i := 6) (oi := ⟨some 3, _, _, _, _, _⟩) (v := ?_) rfl (by kernel_rfl) (by kernel_rfl) (by kernel_rfl) (fun _ _ _ h => h) (Or.inl ⟨by rfl, ?_⟩) (by assumption) ?_
      rotate_left
      · intro w hSw; go_simp; first | done | with_reducible rfl
      try simp only [Act.put, List.setIfInBounds_toArray, List.set_cons_zero, List.set_cons_succ]
      refine wpAnyH_take (i := 7) (oi := ⟨some 4, _, _, _, _, _⟩) (v := ?_) rfl (by kernel_rfl) (by kernel_rfl) (by kernel_rfl) (fun _ _ _ h => h) (Or.inl ⟨by rfl, ?_⟩) (by assumption) ?_
      rotate_left
      · intro w hSw; go_simp; first | done | with_reducible rfl
      try simp only [Act.put, List.setIfInBounds_toArray, List.set_cons_zero, List.set_cons_succ]
      refine wpAnyH_done (by kernel_rfl) ?_ _
      refine NoPanic.normal ?_
      go_wp2_with fail
      go_ret3
      have hb := B1.out.trans (hHeld.mono B1.out.size)
      exact ⟨p, _, _, 0, true, by rw [HZ.out]; rfl, hb, HCUT.out, HR.out, g2, by rw [HZ.out]; omega⟩
    · have HA' : Hid (cutA (some ⟨b, o, none⟩) s c = some ⟨b, o + s, none⟩) := by show _ = _; unfold cutA; rw [if_neg hc0]; simp [add_plain]
      rw [HA'.out] at HCUT
      clear HA'
      go_enter Tryd.func60, Tryd.ntmps60
      go_wp2_with fail
      with_reducible refine HG.out.mono ?_
      rintro e w' ⟨v1, rfl, h1, b1⟩
      rw [HP.out]
      obtain ⟨P, pc, sp⟩ := own_shape h1
      obtain rfl := sp.val
      have CV : ∀ v, Below w'.heap.size w' v → (convert 24 9 (.slice P p.length pc)).run Tryd.prog v = .ok (.string ⟨p.toArray⟩) v := fun v h => conv_str pc (sp.rd.below h (Nat.le_refl _))
      have B1 := Lib.hid b1
      clear sp h1 b1
      go_wp2_with fail
      refine wp_region_noPanic ?_
      refine wp_region_held_drew (S := fun v => Below w'.heap.size w' v) (by kernel_rfl) ((Below.refl _ _).drew) (fun hHeld => ?_)
      refine wpAnyH_take (i := 0) (oi := ⟨some 16, _, _, _, _, _⟩) (v := ?_) rfl (by kernel_rfl) (by kernel_rfl) (by kernel_rfl) (fun _ _ _ h => h) (Or.inl ⟨by rfl, ?_⟩) (by assumption) ?_
      rotate_left
      · intro w hSw; go_simp; first | done | with_reducible rfl
      try simp only [Act.put, List.setIfInBounds_toArray, List.set_cons_zero, List.set_cons_succ]
      refine wpAnyH_take (i := 1) (oi := ⟨some 17, _, _, _, _, _⟩) (v := ?_) rfl (by kernel_rfl) (by kernel_rfl) (by kernel_rfl) (fun _ _ _ h => h) (Or.inl ⟨by rfl, ?_⟩) (by assumption) ?_
      rotate_left
      · intro w hSw; go_simp; first | done | with_reducible rfl
      try simp only [Act.put, List.setIfInBounds_toArray, List.set_cons_zero, List.set_cons_succ]
      refine wpAnyH_take (i := 2) (oi := ⟨some 18, _, _, _, _, _⟩) (v := ?_) rfl (by kernel_rfl) (by kernel_rfl) (by kernel_rfl) (fun _ _ _ h => h) (Or.inl ⟨by rfl, ?_⟩) (by assumption) ?_
      rotate_left
      · intro w hSw; go_simp; first | done | with_reducible rfl
      try simp only [Act.put, List.setIfInBounds_toArray, List.set_cons_zero, List.set_cons_succ]
      refine wpAnyH_take (i := 3) (oi := ⟨some 19, _, _, _, _, _⟩) (v := ?_) rfl (by kernel_rfl) (by kernel_rfl) (by kernel_rfl) (fun _ _ _ h => h) (Or.inl ⟨by rfl, ?_⟩) (by assumption) ?_
      rotate_left
      · intro w hSw; go_simp; first | done | with_reducible rfl
      try simp only [Act.put, List.setIfInBounds_toArray, List.set_cons_zero, List.set_cons_succ]
      refine wpAnyH_take (i := 4) (oi := ⟨some 20, _, _, _, _, _⟩) (v := ?_) rfl (by kernel_rfl) (by kernel_rfl) (by kernel_rfl) (fun _ _ _ h => h) (Or.inl ⟨by rfl, ?_⟩) (by assumption) ?_
      rotate_left
      · intro w hSw; go_simp; first | done | with_reducible rfl
      try simp only [Act.put, List.setIfInBounds_toArray, List.set_cons_zero, List.set_cons_succ]
      refine wpAnyH_take (i := 5) (oi := ⟨some 2, _, _, _, _, _⟩) (v := ?_) rfl (by kernel_rfl) (by kernel_rfl) (by kernel_rfl) (fun _ _ _ h => h) (Or.inl ⟨by rfl, ?_⟩) (by assumption) ?_
      rotate_left
      · intro w hSw; go_simp; first | done | with_reducible rfl
      try simp only [Act.put, List.setIfInBounds_toArray, List.set_cons_zero, List.set_cons_succ]
      refine wpAnyH_take (i := 6) (oi := ⟨some 3, _, _, _, _, _⟩) (v := ?_) rfl (by kernel_rfl) (by kernel_rfl) (by kernel_rfl) (fun _ _ _ h => h) (Or.inl ⟨by rfl, ?_⟩) (by assumption) ?_
      rotate_left
      · intro w hSw; go_simp; first | done | with_reducible rfl
      try simp only [Act.put, List.setIfInBounds_toArray, List.set_cons_zero, List.set_cons_succ]
      refine wpAnyH_take (i := 7) (oi := ⟨some 4, _, _, _, _, _⟩) (v := ?_) rfl (by kernel_rfl) (by kernel_rfl) (by kernel_rfl) (fun _ _ _ h => h) (Or.inl ⟨by rfl, ?_⟩) (by assumption) ?_
      rotate_left
      · intro w hSw; go_simp; first | done | with_reducible rfl
      try simp only [Act.put, List.setIfInBounds_toArray, List.set_cons_zero, List.set_cons_succ]
      refine wpAnyH_done (by kernel_rfl) ?_ _
      refine NoPanic.normal ?_
      go_wp2_with fail
      go_ret3
      have hb := B1.out.trans (hHeld.mono B1.out.size)
      exact ⟨p, _, _, c - s, true, by rw [HD.out]; rfl, hb, HCUT.out, HR.out, g2, by rw [HD.out]; omega⟩
  · have HR : Hid (rdS l = none) := by show _ = _; unfold rdS; rw [if_neg he]
    have hne : (((partV l 65536).2.2 : Int) != 0) = true := by rw [bne_iff_ne]; omega
    generalize (partV l 65536).2.2 = er at *
    generalize (partV l 65536).2.1 = s at *
    generalize (partV l 65536).1 = p at *
    clear he
    go_enter Tryd.func60, Tryd.ntmps60
    go_wp2_with fail
    with_reducible refine HG.out.mono ?_
    rintro e w' ⟨v1, rfl, h1, b1⟩
    obtain ⟨P, pc, sp⟩ := own_shape h1
    obtain rfl := sp.val
    have B1 := Lib.hid b1
    clear sp h1 b1
    go_wp2_with fail
    go_ret3
    exact ⟨[], none, [], 0, false, rfl, B1.out, (fun _ _ => ⟨Rb.nil _ _, Nat.le_refl _, by unfold maxLen; omega, fun _ => rfl⟩), HR.out, Nat.zero_le _, Nat.zero_le _⟩
theorem many_next {m : Nat} {r r2 : Bs} {s : Bs} (acc : List Bs) (h : rdS r = some (s, r2)) : ((rdMany m r2).map fun q => ((acc ++ [s]) ++ q.1, q.2)) = (rdMany (m + 1) r).map fun q => (acc ++ q.1, q.2) := by
  rw [rdMany, h]
  simp only
  cases rdMany m r2 with
  | none => rfl
  | some q => simp
theorem many_stop {m : Nat} {r : Bs} (h : rdS r = none) : rdMany (m + 1) r = none := by rw [rdMany, h]
def textsPost (w : World) (A0 : Option Addr) (l : Bs) (c0 : Nat) : Ending → World → Prop := fun e w' =>
  ∃ ss S sc A r c b, e = .returned (.tuple #[.slice S (ss : List Bs).length sc, .slice A (r : Bs).length c, .bool b]) ∧ Ows w.heap.size w' (.slice S ss.length sc) ss ∧ Below w.heap.size w w' ∧ (∀ W, Arg W A0 l c0 → Arg W A r c) ∧ rdL l = (if b then some (ss, r) else none) ∧ ss.length ≤ 16 ∧ (∀ s ∈ ss, s.length ≤ l.length) ∧ r.length ≤ l.length
set_option maxRecDepth 100000 in
set_option maxHeartbeats 4000000 in
theorem rtexts_any (A : Option Addr) (l : Bs) (c : Nat) (w : World) (hA : Arg w A l c) (hl : l.length ≤ 1000000) :
    Calls Tryd.prog 59 #[.slice A l.length c] w (textsPost w A l c) := by
  have HN := Lib.hid (rnum_any A l c w hA (by omega))
  have HAW := Lib.hid (fun W (h : Below w.heap.size w W) => arg_below hA h (Nat.le_refl _))
  go_enter Tryd.func59, Tryd.ntmps59
  go_wp2_with fail
  with_reducible refine HN.out.mono ?_
  rintro e w1 ⟨n, A1, r1, c1, b, rfl, b1, hto, hrd, hnb, hrl⟩
  have HB1 := Lib.hid b1; have HTO := Lib.hid hto; have HRD := Lib.hid hrd
  unfold big at hnb
  clear hA b1 hto hrd
  cases b
  · have HR : Hid (rdL l = none) := by show _ = _; unfold rdL; rw [HRD.out]; rfl
    go_wp2_with fail
    go_ret3
    exact ⟨[], none, 0, none, [], 0, false, rfl, ows_nil _ _, HB1.out, (fun _ _ => ⟨Rb.nil _ _, Nat.le_refl _, by unfold maxLen; omega, fun _ => rfl⟩), HR.out, Nat.zero_le _, (fun s hs => by cases hs), Nat.zero_le _⟩
  by_cases h16 : 16 < n
  · have hi : (16 : Int) < n := by omega
    have HR : Hid (rdL l = none) := by show _ = _; unfold rdL; rw [HRD.out]; simp only [if_true]; rw [if_pos h16]
    clear h16
    go_wp2_with fail
    go_ret3
    exact ⟨[], none, 0, none, [], 0, false, rfl, ows_nil _ _, HB1.out, (fun _ _ => ⟨Rb.nil _ _, Nat.le_refl _, by unfold maxLen; omega, fun _ => rfl⟩), HR.out, Nat.zero_le _, (fun s hs => by cases hs), Nat.zero_le _⟩
  have hi : ¬ (16 : Int) < n := by omega
  have HR : Hid (rdL l = rdMany n r1) := by show _ = _; unfold rdL; rw [HRD.out]; simp only [if_true]; rw [if_neg h16]
  have hn16 : n ≤ 16 := by omega
  clear h16
  go_wp2_with fail
  go_loopw [0, 7, 8] (fun bv u i wr => ∃ (k : Nat) (acc : List Bs) (A2 : Option Addr) (r : Bs) (c2 : Nat), k ≤ n ∧ i = .int .u64 (k : Int) ∧ Ows w.heap.size wr u acc ∧ acc.length = k ∧ (∀ s ∈ acc, s.length ≤ l.length) ∧ bv = .slice A2 r.length c2 ∧ (∀ W, Arg W A l c → Arg W A2 r c2) ∧ r.length ≤ l.length ∧ ((rdMany (n - k) r).map fun q => (acc ++ q.1, q.2)) = rdMany n r1 ∧ Below w.heap.size w wr) (fun _ _ i _ => n - (intOf i).toNat)
  case atStart => exact ⟨0, [], A1, r1, c1, Nat.zero_le _, rfl, ows_nil _ _, rfl, (fun s hs => by cases hs), rfl, HTO.out, hrl, by simp, HB1.out⟩
  case round =>
    obtain ⟨k, acc, A2, r, c2, hk, rfl, hown, hal, hsl, rfl, hto2, hrl2, heq, hbw⟩ := hrel
    obtain ⟨wo, rfl⟩ : ∃ wo : World, wo = wr := ⟨_, rfl⟩
    have HOW := Lib.hid hown; have HSL := Lib.hid hsl; have HEQ := Lib.hid heq; have HBW := Lib.hid hbw; have HTO2 := Lib.hid hto2; have HAL := Lib.hid hal
    have hz := hbw.size
    have hal1 : acc.length ≤ 16 := by omega
    by_cases hltk : k < n
    · have i1 : (k : Int) < n := by omega
      obtain ⟨m, hm⟩ : ∃ m, n - k = m + 1 := ⟨n - k - 1, by omega⟩
      have HM : Hid (n - (k + 1) = m) := by show _ = _; omega
      rw [hm] at HEQ
      have HT := Lib.hid (rtext_any A2 r c2 wo (hto2 wo (HAW.out wo hbw)) (by omega))
      clear hown hsl heq hbw hto2 hal hm
      go_wp2_with fail
      with_reducible refine HT.out.mono ?_
      rintro e w2 ⟨p, A3, r3, c3, b3, rfl, b2, hto3, hrd3, hpl, hrl3⟩
      have HB2 := Lib.hid (HBW.out.trans (b2.mono hz))
      have H2 := Lib.hid (ows_below HOW.out b2 (Nat.le_refl _))
      have hz2 : w.heap.size ≤ w2.heap.size := HB2.out.size
      have HTO3 : Hid (∀ W, Arg W A l c → Arg W A3 r3 c3) := fun W h => hto3 W (HTO2.out W h)
      have HRD3 := Lib.hid hrd3
      clear b2 hto3 hrd3
      cases b3
      · have HRN : Hid (rdL l = none) := by show _ = _; rw [HR.out, ← HEQ.out, many_stop HRD3.out]; rfl
        go_wp2_with fail
        go_ret3
        exact ⟨[], none, 0, none, [], 0, false, rfl, ows_nil _ _, HB2.out, (fun _ _ => ⟨Rb.nil _ _, Nat.le_refl _, by unfold maxLen; omega, fun _ => rfl⟩), HRN.out, Nat.zero_le _, (fun s hs => by cases hs), Nat.zero_le _⟩
      go_wp2_with (at_builtin; (refine wpList_app rfl _ _ elS rfl rfl (ows_row H2.out) #[.string ⟨p.toArray⟩] rfl (by simp; rfl) (by omega) (by simp) hz2 ?_))
      intro v3 w3 hown3 hg3
      have H3 : Hid (Ows w.heap.size w3 v3 (acc ++ [p])) := by
        show Ows _ _ _ _
        unfold Ows
        rw [List.length_append, List.map_append]
        exact hown3
      have HB3 := Lib.hid (HB2.out.grown hg3 hz2 (fun j hj => ((ows_row H2.out).lt j hj).1))
      clear hown3 hg3
      go_wp2_with fail
      go_roundw
      case rel => exact ⟨k + 1, acc ++ [p], A3, r3, c3, by omega, by go_num, H3.out, by rw [List.length_append, HAL.out]; rfl, (fun s hs => by rcases List.mem_append.1 hs with hs | hs; exact HSL.out s hs; rw [List.mem_singleton.1 hs]; omega), rfl, HTO3.out, by omega, by rw [HM.out, many_next acc HRD3.out]; exact HEQ.out, HB3.out⟩
      case measure => simp [intOf]; omega
    · obtain rfl : k = n := by omega
      have hnn : ¬ (k : Int) < k := by omega
      have HFIN : Hid (rdL l = some (acc, r)) := by show _ = _; rw [HR.out, ← HEQ.out, Nat.sub_self, rdMany]; simp
      obtain ⟨S, sc, sh⟩ := ows_shape hown
      obtain rfl := sh.val
      clear hown hsl heq hbw hto2 sh
      go_wp2_with fail
      go_ret3
      exact ⟨acc, S, sc, A2, r, c2, true, by rw [HAL.out]; rfl, HOW.out, HBW.out, HTO2.out, HFIN.out, hal1, HSL.out, hrl2⟩
end Go.Proofs.YtefadkdngcbpiaaDoor.Qzd
namespace Go.Proofs.YtefadkdngcbpiaaDoor.Qze
open Go.RowKit Vm Ap Vw Va Vg Vgr Vp Vpr Gc Mi Mb Qm Qs Qe Qc Qzd

theorem conv_new (l : Bs) (w : World) : ∃ A c w1, (convert 9 24 (.string ⟨l.toArray⟩)).run Tryd.prog w = .ok (.slice A l.length c) w1 ∧ Rb w1 A l ∧ (A = none → c = 0) ∧ (∀ a, A = some a → w.heap.size ≤ a.block ∧ a.block < w1.heap.size) ∧ Below w.heap.size w w1 := by
  have h := Lib.run_convert_string_bytes (P := Tryd.prog) w 9 24 5 ⟨l.toArray⟩ Tryd.underlying9 Tryd.underlying24 Tryd.underlying5
  have hsz : (⟨l.toArray⟩ : ByteArray).size = l.length := by show l.toArray.size = _; simp
  rw [hsz] at h
  refine ⟨_, _, _, h, fun _ => ⟨w.heap.size, 0, rfl, by rw [Lib.bytesWorld_size]; omega, fun j hj => ?_⟩, (fun e => by cases e), (fun a e => by cases e; rw [Lib.bytesWorld_size]; exact ⟨Nat.le_refl _, by show w.heap.size < _; omega⟩), ?_⟩
  · rw [Nat.zero_add, Lib.bytesWorld_cell w 5 ⟨l.toArray⟩ j (by rw [hsz]; exact hj)]
    simp [List.getElem?_eq_getElem hj]
  · exact ⟨rfl, rfl, rfl, by rw [Lib.bytesWorld_size]; omega, fun k hk => Lib.bytesWorld_at_old w _ _ k hk⟩
/-- No list and no value of the command lies in the block. -/
def Off (j : Nat) (x : Com) : Prop := (∀ a, x.KA = some a → a.block ≠ j) ∧ (∀ a, x.VA = some a → a.block ≠ j) ∧ (∀ a, x.TA = some a → a.block ≠ j)
def readPost (B : Nat) (w : World) (x : Com) (t : UInt8) (A0 : Option Addr) (l : Bs) (c0 : Nat) : Ending → World → Prop := fun e w' =>
  ∃ y A r c b, e = .returned (.tuple #[comV y, .slice A (r : Bs).length c, .bool b]) ∧ Below w.heap.size w w' ∧ Got B w' y ∧ (∀ W, Arg W A0 l c0 → Arg W A r c) ∧ rdPart x.c t l = (if b then some (y.c, r) else none) ∧ r.length ≤ l.length ∧ (∀ j, j < w.heap.size → Off j x → Off j y)
theorem opt_map {α β : Type} {o : Option α} {f : α → β} {b : Bool} {v : α} {u : β} (h : o = (if b then some v else none)) (e : f v = u) : o.map f = (if b then some u else none) := by
  subst h; subst e; cases b <;> rfl
set_option maxRecDepth 100000 in
set_option maxHeartbeats 16000000 in
theorem rread_any (B : Nat) (x : Com) (t : UInt8) (ht : t ∈ nine) (A : Option Addr) (l : Bs) (c : Nat) (w : World) (hx : Got B w x) (hB : B ≤ w.heap.size) (hA : Arg w A l c) (hl : l.length ≤ 1000000) :
    Calls Tryd.prog 42 #[comV x, .int .u8 (t.toNat : Int), .slice A l.length c] w (readPost B w x t A l c) := by
  obtain ⟨C, hC⟩ : ∃ C, C = w.heap.size := ⟨_, rfl⟩
  obtain ⟨w0, hw0⟩ : ∃ w0, w0 = (w.alloc (comO x)).alloc (comO zeroC) := ⟨_, rfl⟩
  have B0 : Below C w w0 := by rw [hw0, hC]; exact two_below w _ _
  have BX0 : Box w0 C x := by rw [hw0, hC]; exact (Box.new w x).below (alloc_below _ _) (Nat.le_refl _)
  have BZ0 : Box w0 (C + 1) zeroC := by
    have hb := Box.new (w.alloc (comO x)) zeroC
    have e : (w.alloc (comO x)).heap.size = w.heap.size + 1 := by simp
    rw [e] at hb
    rw [hw0, hC]; exact hb
  have hs0 : w0.heap.size = C + 2 := by rw [hw0, hC]; simp
  have e0 : comO zeroC = .cells #[.int .i64 0, .string ⟨#[]⟩, .slice none 0 0, .slice none 0 0, .slice none 0 0, .int .u64 0, .int .u64 0, .string ⟨#[]⟩, .string ⟨#[]⟩, .string ⟨#[]⟩] 28 := rfl
  have HX := Lib.hid BX0; have HZ := Lib.hid BZ0
  have HB0 := Lib.hid B0
  have HG : Hid (∀ W, Below C w W → Got B W x) := fun W h => by rw [hC] at h; exact hx.below h (Nat.le_refl _)
  have HAr : Arg w0 A l c := arg_below (B := C) hA B0 (by omega)
  have HBC : Hid (B ≤ C) := by show _ ≤ _; omega
  have HS0 := Lib.hid hs0
  unfold readPost
  rw [← hC]
  unfold comV
  rw [e0] at hw0
  unfold comO at hw0
  clear e0 B0 BX0 BZ0 hs0 hx hB hA
  unfold nine at ht
  simp only [List.mem_cons, List.not_mem_nil, or_false] at ht
  rcases ht with rfl | rfl | rfl | rfl | rfl | rfl | rfl | rfl | rfl
  · have HRP : Hid (rdPart x.c 107 l = (rdS l).map fun p => ({ x.c with key := p.1 }, p.2)) := by show _ = _; simp (decide := true) only [rdPart, if_true, if_false]
    show Calls _ _ #[_, .int .u8 107, _] _ _
    have HQ := Lib.hid (rtext_any A l c w0 HAr (by omega))
    clear HAr
    go_enter Tryd.func42, Tryd.ntmps42
    go_upto_region 1 with fail
    rw [← hw0, ← hC]
    have HC := Lib.hid hC
    clear hw0 hC
    go_wp2_with fail
    with_reducible refine HQ.out.mono ?_
    rintro e w1 ⟨s, A1, r1, c1, b, rfl, b1, hto, hrd, hsl, hrl⟩
    have HTO := Lib.hid hto; have HRD := Lib.hid hrd; have HB1 := Lib.hid b1
    clear hto hrd b1 HQ
    have BX1 := Lib.hid (HX.out.below HB1.out (Nat.le_refl _))
    have BZ1 := Lib.hid (HZ.out.below HB1.out (Nat.le_refl _))
    have fz := BX1.out.un 1
    obtain ⟨x0, x1, x2, x3, x4, x5, x6, x7, x8, x9, _⟩ := BX1.out
    obtain ⟨z0, z1, z2, z3, z4, z5, z6, z7, z8, z9, zun⟩ := BZ1.out
    have zu0 := zun 0; have zu1 := zun 1; have zu2 := zun 2; have zu3 := zun 3; have zu4 := zun 4; have zu5 := zun 5; have zu6 := zun 6; have zu7 := zun 7; have zu8 := zun 8; have zu9 := zun 9
    clear zun
    go_wp2_with fail
    have HF := put10 (w1.setCell ⟨C, 1, none⟩ (.string ⟨s.toArray⟩)) (C + 1) (.int .i64 x.c.op) (.string ⟨s.toArray⟩) (.slice x.KA x.c.keys.length x.kc) (.slice x.VA x.c.value.length x.vc) (.slice x.TA x.c.tags.length x.tc) (.int .u64 (x.c.life : Int)) (.int .u64 (x.c.version : Int)) (.string ⟨x.c.tag.toArray⟩) (.string ⟨x.c.pre.toArray⟩) (.string ⟨x.c.child.toArray⟩)
    have hz := HB1.out.size; have hs0 := HS0.out; have hbc := HBC.out
    have HBW : Below C w w1 := HB0.out.trans (HB1.out.mono (by omega))
    have HBS : Below C w (w1.setCell ⟨C, 1, none⟩ (.string ⟨s.toArray⟩)) := HBW.setCell (Nat.le_refl _) _
    have HBF := HBS.trans (HF.below (B := C) (fun j e => by omega) (by have h1 := HBS.size; have h2 := HC.out; omega))
    have g := HG.out _ HBF
    have szF := HF.size
    have szW : (w1.setCell ⟨C, 1, none⟩ (.string ⟨s.toArray⟩)).heap.size = w1.heap.size := by simp
    rw [szW] at szF
    have gy : Got B _ ({ x with c := { x.c with key := s } } : Com) := ⟨⟨g.rc.rk, g.rc.nk, g.rc.rv, g.rc.nv, g.rc.rt, g.rc.nt⟩, ⟨g.bnd.op1, g.bnd.op2, (by show s.length ≤ 1000000; omega), g.bnd.child, g.bnd.tag, g.bnd.pre, g.bnd.value, g.bnd.keys, g.bnd.tags, g.bnd.eachK, g.bnd.eachT, g.bnd.life, g.bnd.version⟩, g.nk, g.nt, g.bk, g.bv, g.bt⟩
    exact bodyPost_ret (v := .tuple #[comV { x with c := { x.c with key := s } }, .slice A1 r1.length c1, .bool b]) (by unfold comV; simp [results, Tryd.results42, go_sem, z0, z1, z2, z3, z4, z5, z6, z7, z8, z9]) rfl ⟨{ x with c := { x.c with key := s } }, A1, r1, c1, b, rfl, HBF, gy, HTO.out, by rw [HRP.out]; exact opt_map HRD.out rfl, hrl, (fun _ _ h => h)⟩
  · have HRP : Hid (rdPart x.c 118 l = (rdS l).map fun p => ({ x.c with value := p.1 }, p.2)) := by show _ = _; simp (decide := true) only [rdPart, if_true, if_false]
    show Calls _ _ #[_, .int .u8 118, _] _ _
    have HQ := Lib.hid (rtext_any A l c w0 HAr (by omega))
    clear HAr
    go_enter Tryd.func42, Tryd.ntmps42
    go_upto_region 1 with fail
    rw [← hw0, ← hC]
    have HC := Lib.hid hC
    clear hw0 hC
    go_wp2_with fail
    with_reducible refine HQ.out.mono ?_
    rintro e w1 ⟨s, A1, r1, c1, b, rfl, b1, hto, hrd, hsl, hrl⟩
    have HTO := Lib.hid hto; have HRD := Lib.hid hrd; have HB1 := Lib.hid b1
    obtain ⟨P, pc, w2, hcv, hrb, hnon, hnew, b2⟩ := conv_new s w1
    have HRB := Lib.hid hrb; have HNON := Lib.hid hnon; have HNEW := Lib.hid hnew
    replace HB1 : Hid (Below w0.heap.size w0 w2) := b1.trans (b2.mono b1.size)
    have HZ12 : Hid (w0.heap.size ≤ w1.heap.size) := b1.size
    clear hrb hnon hnew b2
    clear hto hrd b1 HQ
    have BX1 := Lib.hid (HX.out.below HB1.out (Nat.le_refl _))
    have BZ1 := Lib.hid (HZ.out.below HB1.out (Nat.le_refl _))
    have fz := BX1.out.un 3
    obtain ⟨x0, x1, x2, x3, x4, x5, x6, x7, x8, x9, _⟩ := BX1.out
    obtain ⟨z0, z1, z2, z3, z4, z5, z6, z7, z8, z9, zun⟩ := BZ1.out
    have zu0 := zun 0; have zu1 := zun 1; have zu2 := zun 2; have zu3 := zun 3; have zu4 := zun 4; have zu5 := zun 5; have zu6 := zun 6; have zu7 := zun 7; have zu8 := zun 8; have zu9 := zun 9
    clear zun
    go_wp2_with fail
    have HF := put10 (w2.setCell ⟨C, 3, none⟩ (.slice P s.length pc)) (C + 1) (.int .i64 x.c.op) (.string ⟨x.c.key.toArray⟩) (.slice x.KA x.c.keys.length x.kc) (.slice P s.length pc) (.slice x.TA x.c.tags.length x.tc) (.int .u64 (x.c.life : Int)) (.int .u64 (x.c.version : Int)) (.string ⟨x.c.tag.toArray⟩) (.string ⟨x.c.pre.toArray⟩) (.string ⟨x.c.child.toArray⟩)
    have hz := HB1.out.size; have hs0 := HS0.out; have hbc := HBC.out
    have HBW : Below C w w2 := HB0.out.trans (HB1.out.mono (by omega))
    have HBS : Below C w (w2.setCell ⟨C, 3, none⟩ (.slice P s.length pc)) := HBW.setCell (Nat.le_refl _) _
    have HBF := HBS.trans (HF.below (B := C) (fun j e => by omega) (by have h1 := HBS.size; have h2 := HC.out; omega))
    have g := HG.out _ HBF
    have szF := HF.size
    have szW : (w2.setCell ⟨C, 3, none⟩ (.slice P s.length pc)).heap.size = w2.heap.size := by simp
    rw [szW] at szF
    have hnw : ∀ a, P = some a → C + 2 ≤ a.block ∧ a.block < w2.heap.size := fun a ha => ⟨by have := (HNEW.out a ha).1; have := HZ12.out; omega, (HNEW.out a ha).2⟩
    have gy : Got B _ ({ x with c := { x.c with value := s }, VA := P, vc := pc } : Com) := ⟨⟨g.rc.rk, g.rc.nk, (rb_only HRB.out (((Only.refl (fun j => j = C ∨ j = C + 1) w2).put (Or.inl rfl) _).trans ((HF.mono (fun j _ e => Or.inl (Or.inr e))))) (fun a ha e => by have := (hnw a ha).1; rcases e with e | e <;> omega)), HNON.out, g.rc.rt, g.rc.nt⟩, ⟨g.bnd.op1, g.bnd.op2, g.bnd.key, g.bnd.child, g.bnd.tag, g.bnd.pre, (by show s.length ≤ 1000000; omega), g.bnd.keys, g.bnd.tags, g.bnd.eachK, g.bnd.eachT, g.bnd.life, g.bnd.version⟩, g.nk, g.nt, g.bk, (fun a ha => ⟨by have := (hnw a ha).1; omega, Nat.lt_of_lt_of_le (hnw a ha).2 szF⟩), g.bt⟩
    exact bodyPost_ret (v := .tuple #[comV { x with c := { x.c with value := s }, VA := P, vc := pc }, .slice A1 r1.length c1, .bool b]) (by unfold comV; simp [results, Tryd.results42, go_sem, z0, z1, z2, z3, z4, z5, z6, z7, z8, z9]) rfl ⟨{ x with c := { x.c with value := s }, VA := P, vc := pc }, A1, r1, c1, b, rfl, HBF, gy, HTO.out, by rw [HRP.out]; exact opt_map HRD.out rfl, hrl, (fun j hj h => ⟨h.1, (fun a ha e => by have := (hnw a ha).1; omega), h.2.2⟩)⟩
  · have HRP : Hid (rdPart x.c 116 l = (rdL l).map fun p => ({ x.c with tags := p.1 }, p.2)) := by show _ = _; simp (decide := true) only [rdPart, if_true, if_false]
    show Calls _ _ #[_, .int .u8 116, _] _ _
    have HQ := Lib.hid (rtexts_any A l c w0 HAr (by omega))
    clear HAr
    go_enter Tryd.func42, Tryd.ntmps42
    go_upto_region 1 with fail
    rw [← hw0, ← hC]
    have HC := Lib.hid hC
    clear hw0 hC
    go_wp2_with fail
    with_reducible refine HQ.out.mono ?_
    rintro e w1 ⟨ss, S, sc, A1, r1, c1, b, rfl, hos, b1, hto, hrd, hs16, hsl, hrl⟩
    have HTO := Lib.hid hto; have HRD := Lib.hid hrd; have HB1 := Lib.hid b1
    obtain ⟨S2, sc2, sh⟩ := ows_shape hos
    have e2 := sh.val
    simp only [Value.slice.injEq, true_and] at e2
    obtain ⟨rfl, rfl⟩ := e2
    have HOS := Lib.hid hos; have SH := Lib.hid sh; have HSL := Lib.hid hsl
    clear sh hos hsl
    clear hto hrd b1 HQ
    have BX1 := Lib.hid (HX.out.below HB1.out (Nat.le_refl _))
    have BZ1 := Lib.hid (HZ.out.below HB1.out (Nat.le_refl _))
    have fz := BX1.out.un 4
    obtain ⟨x0, x1, x2, x3, x4, x5, x6, x7, x8, x9, _⟩ := BX1.out
    obtain ⟨z0, z1, z2, z3, z4, z5, z6, z7, z8, z9, zun⟩ := BZ1.out
    have zu0 := zun 0; have zu1 := zun 1; have zu2 := zun 2; have zu3 := zun 3; have zu4 := zun 4; have zu5 := zun 5; have zu6 := zun 6; have zu7 := zun 7; have zu8 := zun 8; have zu9 := zun 9
    clear zun
    go_wp2_with fail
    have HF := put10 (w1.setCell ⟨C, 4, none⟩ (.slice S ss.length sc)) (C + 1) (.int .i64 x.c.op) (.string ⟨x.c.key.toArray⟩) (.slice x.KA x.c.keys.length x.kc) (.slice x.VA x.c.value.length x.vc) (.slice S ss.length sc) (.int .u64 (x.c.life : Int)) (.int .u64 (x.c.version : Int)) (.string ⟨x.c.tag.toArray⟩) (.string ⟨x.c.pre.toArray⟩) (.string ⟨x.c.child.toArray⟩)
    have hz := HB1.out.size; have hs0 := HS0.out; have hbc := HBC.out
    have HBW : Below C w w1 := HB0.out.trans (HB1.out.mono (by omega))
    have HBS : Below C w (w1.setCell ⟨C, 4, none⟩ (.slice S ss.length sc)) := HBW.setCell (Nat.le_refl _) _
    have HBF := HBS.trans (HF.below (B := C) (fun j e => by omega) (by have h1 := HBS.size; have h2 := HC.out; omega))
    have g := HG.out _ HBF
    have szF := HF.size
    have szW : (w1.setCell ⟨C, 4, none⟩ (.slice S ss.length sc)).heap.size = w1.heap.size := by simp
    rw [szW] at szF
    have hnw : ∀ a, S = some a → C + 2 ≤ a.block ∧ a.block < w1.heap.size := fun a ha => ⟨by have := (SH.out.base a ha).1; omega, (SH.out.base a ha).2⟩
    have gy : Got B _ ({ x with c := { x.c with tags := ss }, TA := S, tc := sc } : Com) := ⟨⟨g.rc.rk, g.rc.nk, g.rc.rv, g.rc.nv, ((Rd.of_own HOS.out).only (((Only.refl (fun j => j = C ∨ j = C + 1) w1).put (Or.inl rfl) _).trans ((HF.mono (fun j _ e => Or.inl (Or.inr e))))) (fun a ha e => by have := (hnw a ha).1; rcases e with e | e <;> omega)), SH.out.non⟩, ⟨g.bnd.op1, g.bnd.op2, g.bnd.key, g.bnd.child, g.bnd.tag, g.bnd.pre, g.bnd.value, g.bnd.keys, (by show ss.length ≤ 1000; omega), g.bnd.eachK, (fun q hq => by have := HSL.out q hq; omega), g.bnd.life, g.bnd.version⟩, g.nk, hs16, g.bk, g.bv, (fun a ha => ⟨by have := (hnw a ha).1; omega, Nat.lt_of_lt_of_le (hnw a ha).2 szF⟩)⟩
    exact bodyPost_ret (v := .tuple #[comV { x with c := { x.c with tags := ss }, TA := S, tc := sc }, .slice A1 r1.length c1, .bool b]) (by unfold comV; simp [results, Tryd.results42, go_sem, z0, z1, z2, z3, z4, z5, z6, z7, z8, z9]) rfl ⟨{ x with c := { x.c with tags := ss }, TA := S, tc := sc }, A1, r1, c1, b, rfl, HBF, gy, HTO.out, by rw [HRP.out]; exact opt_map HRD.out rfl, hrl, (fun j hj h => ⟨h.1, h.2.1, (fun a ha e => by have := (hnw a ha).1; omega)⟩)⟩
  · have HRP : Hid (rdPart x.c 108 l = (rdN l).map fun p => ({ x.c with life := p.1 }, p.2)) := by show _ = _; simp (decide := true) only [rdPart, if_true, if_false]
    show Calls _ _ #[_, .int .u8 108, _] _ _
    have HQ := Lib.hid (rnum_any A l c w0 HAr (by omega))
    clear HAr
    go_enter Tryd.func42, Tryd.ntmps42
    go_upto_region 1 with fail
    rw [← hw0, ← hC]
    have HC := Lib.hid hC
    clear hw0 hC
    go_wp2_with fail
    with_reducible refine HQ.out.mono ?_
    rintro e w1 ⟨n, A1, r1, c1, b, rfl, b1, hto, hrd, hnb, hrl⟩
    have HTO := Lib.hid hto; have HRD := Lib.hid hrd; have HB1 := Lib.hid b1
    have HNB := Lib.hid hnb
    clear hto hrd b1 HQ
    have BX1 := Lib.hid (HX.out.below HB1.out (Nat.le_refl _))
    have BZ1 := Lib.hid (HZ.out.below HB1.out (Nat.le_refl _))
    have fz := BX1.out.un 5
    obtain ⟨x0, x1, x2, x3, x4, x5, x6, x7, x8, x9, _⟩ := BX1.out
    obtain ⟨z0, z1, z2, z3, z4, z5, z6, z7, z8, z9, zun⟩ := BZ1.out
    have zu0 := zun 0; have zu1 := zun 1; have zu2 := zun 2; have zu3 := zun 3; have zu4 := zun 4; have zu5 := zun 5; have zu6 := zun 6; have zu7 := zun 7; have zu8 := zun 8; have zu9 := zun 9
    clear zun
    go_wp2_with fail
    have HF := put10 (w1.setCell ⟨C, 5, none⟩ (.int .u64 (n : Int))) (C + 1) (.int .i64 x.c.op) (.string ⟨x.c.key.toArray⟩) (.slice x.KA x.c.keys.length x.kc) (.slice x.VA x.c.value.length x.vc) (.slice x.TA x.c.tags.length x.tc) (.int .u64 (n : Int)) (.int .u64 (x.c.version : Int)) (.string ⟨x.c.tag.toArray⟩) (.string ⟨x.c.pre.toArray⟩) (.string ⟨x.c.child.toArray⟩)
    have hz := HB1.out.size; have hs0 := HS0.out; have hbc := HBC.out
    have HBW : Below C w w1 := HB0.out.trans (HB1.out.mono (by omega))
    have HBS : Below C w (w1.setCell ⟨C, 5, none⟩ (.int .u64 (n : Int))) := HBW.setCell (Nat.le_refl _) _
    have HBF := HBS.trans (HF.below (B := C) (fun j e => by omega) (by have h1 := HBS.size; have h2 := HC.out; omega))
    have g := HG.out _ HBF
    have szF := HF.size
    have szW : (w1.setCell ⟨C, 5, none⟩ (.int .u64 (n : Int))).heap.size = w1.heap.size := by simp
    rw [szW] at szF
    have gy : Got B _ ({ x with c := { x.c with life := n } } : Com) := ⟨⟨g.rc.rk, g.rc.nk, g.rc.rv, g.rc.nv, g.rc.rt, g.rc.nt⟩, ⟨g.bnd.op1, g.bnd.op2, g.bnd.key, g.bnd.child, g.bnd.tag, g.bnd.pre, g.bnd.value, g.bnd.keys, g.bnd.tags, g.bnd.eachK, g.bnd.eachT, (by have := HNB.out; unfold big at this; show n < _; omega), g.bnd.version⟩, g.nk, g.nt, g.bk, g.bv, g.bt⟩
    exact bodyPost_ret (v := .tuple #[comV { x with c := { x.c with life := n } }, .slice A1 r1.length c1, .bool b]) (by unfold comV; simp [results, Tryd.results42, go_sem, z0, z1, z2, z3, z4, z5, z6, z7, z8, z9]) rfl ⟨{ x with c := { x.c with life := n } }, A1, r1, c1, b, rfl, HBF, gy, HTO.out, by rw [HRP.out]; exact opt_map HRD.out rfl, hrl, (fun _ _ h => h)⟩
  · have HRP : Hid (rdPart x.c 110 l = (rdN l).map fun p => ({ x.c with version := p.1 }, p.2)) := by show _ = _; simp (decide := true) only [rdPart, if_true, if_false]
    show Calls _ _ #[_, .int .u8 110, _] _ _
    have HQ := Lib.hid (rnum_any A l c w0 HAr (by omega))
    clear HAr
    go_enter Tryd.func42, Tryd.ntmps42
    go_upto_region 1 with fail
    rw [← hw0, ← hC]
    have HC := Lib.hid hC
    clear hw0 hC
    go_wp2_with fail
    with_reducible refine HQ.out.mono ?_
    rintro e w1 ⟨n, A1, r1, c1, b, rfl, b1, hto, hrd, hnb, hrl⟩
    have HTO := Lib.hid hto; have HRD := Lib.hid hrd; have HB1 := Lib.hid b1
    have HNB := Lib.hid hnb
    clear hto hrd b1 HQ
    have BX1 := Lib.hid (HX.out.below HB1.out (Nat.le_refl _))
    have BZ1 := Lib.hid (HZ.out.below HB1.out (Nat.le_refl _))
    have fz := BX1.out.un 6
    obtain ⟨x0, x1, x2, x3, x4, x5, x6, x7, x8, x9, _⟩ := BX1.out
    obtain ⟨z0, z1, z2, z3, z4, z5, z6, z7, z8, z9, zun⟩ := BZ1.out
    have zu0 := zun 0; have zu1 := zun 1; have zu2 := zun 2; have zu3 := zun 3; have zu4 := zun 4; have zu5 := zun 5; have zu6 := zun 6; have zu7 := zun 7; have zu8 := zun 8; have zu9 := zun 9
    clear zun
    go_wp2_with fail
    have HF := put10 (w1.setCell ⟨C, 6, none⟩ (.int .u64 (n : Int))) (C + 1) (.int .i64 x.c.op) (.string ⟨x.c.key.toArray⟩) (.slice x.KA x.c.keys.length x.kc) (.slice x.VA x.c.value.length x.vc) (.slice x.TA x.c.tags.length x.tc) (.int .u64 (x.c.life : Int)) (.int .u64 (n : Int)) (.string ⟨x.c.tag.toArray⟩) (.string ⟨x.c.pre.toArray⟩) (.string ⟨x.c.child.toArray⟩)
    have hz := HB1.out.size; have hs0 := HS0.out; have hbc := HBC.out
    have HBW : Below C w w1 := HB0.out.trans (HB1.out.mono (by omega))
    have HBS : Below C w (w1.setCell ⟨C, 6, none⟩ (.int .u64 (n : Int))) := HBW.setCell (Nat.le_refl _) _
    have HBF := HBS.trans (HF.below (B := C) (fun j e => by omega) (by have h1 := HBS.size; have h2 := HC.out; omega))
    have g := HG.out _ HBF
    have szF := HF.size
    have szW : (w1.setCell ⟨C, 6, none⟩ (.int .u64 (n : Int))).heap.size = w1.heap.size := by simp
    rw [szW] at szF
    have gy : Got B _ ({ x with c := { x.c with version := n } } : Com) := ⟨⟨g.rc.rk, g.rc.nk, g.rc.rv, g.rc.nv, g.rc.rt, g.rc.nt⟩, ⟨g.bnd.op1, g.bnd.op2, g.bnd.key, g.bnd.child, g.bnd.tag, g.bnd.pre, g.bnd.value, g.bnd.keys, g.bnd.tags, g.bnd.eachK, g.bnd.eachT, g.bnd.life, (by have := HNB.out; unfold big at this; show n < _; omega)⟩, g.nk, g.nt, g.bk, g.bv, g.bt⟩
    exact bodyPost_ret (v := .tuple #[comV { x with c := { x.c with version := n } }, .slice A1 r1.length c1, .bool b]) (by unfold comV; simp [results, Tryd.results42, go_sem, z0, z1, z2, z3, z4, z5, z6, z7, z8, z9]) rfl ⟨{ x with c := { x.c with version := n } }, A1, r1, c1, b, rfl, HBF, gy, HTO.out, by rw [HRP.out]; exact opt_map HRD.out rfl, hrl, (fun _ _ h => h)⟩
  · have HRP : Hid (rdPart x.c 109 l = (rdL l).map fun p => ({ x.c with keys := p.1 }, p.2)) := by show _ = _; simp (decide := true) only [rdPart, if_true, if_false]
    show Calls _ _ #[_, .int .u8 109, _] _ _
    have HQ := Lib.hid (rtexts_any A l c w0 HAr (by omega))
    clear HAr
    go_enter Tryd.func42, Tryd.ntmps42
    go_upto_region 1 with fail
    rw [← hw0, ← hC]
    have HC := Lib.hid hC
    clear hw0 hC
    go_wp2_with fail
    with_reducible refine HQ.out.mono ?_
    rintro e w1 ⟨ss, S, sc, A1, r1, c1, b, rfl, hos, b1, hto, hrd, hs16, hsl, hrl⟩
    have HTO := Lib.hid hto; have HRD := Lib.hid hrd; have HB1 := Lib.hid b1
    obtain ⟨S2, sc2, sh⟩ := ows_shape hos
    have e2 := sh.val
    simp only [Value.slice.injEq, true_and] at e2
    obtain ⟨rfl, rfl⟩ := e2
    have HOS := Lib.hid hos; have SH := Lib.hid sh; have HSL := Lib.hid hsl
    clear sh hos hsl
    clear hto hrd b1 HQ
    have BX1 := Lib.hid (HX.out.below HB1.out (Nat.le_refl _))
    have BZ1 := Lib.hid (HZ.out.below HB1.out (Nat.le_refl _))
    have fz := BX1.out.un 2
    obtain ⟨x0, x1, x2, x3, x4, x5, x6, x7, x8, x9, _⟩ := BX1.out
    obtain ⟨z0, z1, z2, z3, z4, z5, z6, z7, z8, z9, zun⟩ := BZ1.out
    have zu0 := zun 0; have zu1 := zun 1; have zu2 := zun 2; have zu3 := zun 3; have zu4 := zun 4; have zu5 := zun 5; have zu6 := zun 6; have zu7 := zun 7; have zu8 := zun 8; have zu9 := zun 9
    clear zun
    go_wp2_with fail
    have HF := put10 (w1.setCell ⟨C, 2, none⟩ (.slice S ss.length sc)) (C + 1) (.int .i64 x.c.op) (.string ⟨x.c.key.toArray⟩) (.slice S ss.length sc) (.slice x.VA x.c.value.length x.vc) (.slice x.TA x.c.tags.length x.tc) (.int .u64 (x.c.life : Int)) (.int .u64 (x.c.version : Int)) (.string ⟨x.c.tag.toArray⟩) (.string ⟨x.c.pre.toArray⟩) (.string ⟨x.c.child.toArray⟩)
    have hz := HB1.out.size; have hs0 := HS0.out; have hbc := HBC.out
    have HBW : Below C w w1 := HB0.out.trans (HB1.out.mono (by omega))
    have HBS : Below C w (w1.setCell ⟨C, 2, none⟩ (.slice S ss.length sc)) := HBW.setCell (Nat.le_refl _) _
    have HBF := HBS.trans (HF.below (B := C) (fun j e => by omega) (by have h1 := HBS.size; have h2 := HC.out; omega))
    have g := HG.out _ HBF
    have szF := HF.size
    have szW : (w1.setCell ⟨C, 2, none⟩ (.slice S ss.length sc)).heap.size = w1.heap.size := by simp
    rw [szW] at szF
    have hnw : ∀ a, S = some a → C + 2 ≤ a.block ∧ a.block < w1.heap.size := fun a ha => ⟨by have := (SH.out.base a ha).1; omega, (SH.out.base a ha).2⟩
    have gy : Got B _ ({ x with c := { x.c with keys := ss }, KA := S, kc := sc } : Com) := ⟨⟨((Rd.of_own HOS.out).only (((Only.refl (fun j => j = C ∨ j = C + 1) w1).put (Or.inl rfl) _).trans ((HF.mono (fun j _ e => Or.inl (Or.inr e))))) (fun a ha e => by have := (hnw a ha).1; rcases e with e | e <;> omega)), SH.out.non, g.rc.rv, g.rc.nv, g.rc.rt, g.rc.nt⟩, ⟨g.bnd.op1, g.bnd.op2, g.bnd.key, g.bnd.child, g.bnd.tag, g.bnd.pre, g.bnd.value, (by show ss.length ≤ 1000; omega), g.bnd.tags, (fun q hq => by have := HSL.out q hq; omega), g.bnd.eachT, g.bnd.life, g.bnd.version⟩, hs16, g.nt, (fun a ha => ⟨by have := (hnw a ha).1; omega, Nat.lt_of_lt_of_le (hnw a ha).2 szF⟩), g.bv, g.bt⟩
    exact bodyPost_ret (v := .tuple #[comV { x with c := { x.c with keys := ss }, KA := S, kc := sc }, .slice A1 r1.length c1, .bool b]) (by unfold comV; simp [results, Tryd.results42, go_sem, z0, z1, z2, z3, z4, z5, z6, z7, z8, z9]) rfl ⟨{ x with c := { x.c with keys := ss }, KA := S, kc := sc }, A1, r1, c1, b, rfl, HBF, gy, HTO.out, by rw [HRP.out]; exact opt_map HRD.out rfl, hrl, (fun j hj h => ⟨(fun a ha e => by have := (hnw a ha).1; omega), h.2⟩)⟩
  · have HRP : Hid (rdPart x.c 103 l = (rdS l).map fun p => ({ x.c with tag := p.1 }, p.2)) := by show _ = _; simp (decide := true) only [rdPart, if_true, if_false]
    show Calls _ _ #[_, .int .u8 103, _] _ _
    have HQ := Lib.hid (rtext_any A l c w0 HAr (by omega))
    clear HAr
    go_enter Tryd.func42, Tryd.ntmps42
    go_upto_region 1 with fail
    rw [← hw0, ← hC]
    have HC := Lib.hid hC
    clear hw0 hC
    go_wp2_with fail
    with_reducible refine HQ.out.mono ?_
    rintro e w1 ⟨s, A1, r1, c1, b, rfl, b1, hto, hrd, hsl, hrl⟩
    have HTO := Lib.hid hto; have HRD := Lib.hid hrd; have HB1 := Lib.hid b1
    clear hto hrd b1 HQ
    have BX1 := Lib.hid (HX.out.below HB1.out (Nat.le_refl _))
    have BZ1 := Lib.hid (HZ.out.below HB1.out (Nat.le_refl _))
    have fz := BX1.out.un 7
    obtain ⟨x0, x1, x2, x3, x4, x5, x6, x7, x8, x9, _⟩ := BX1.out
    obtain ⟨z0, z1, z2, z3, z4, z5, z6, z7, z8, z9, zun⟩ := BZ1.out
    have zu0 := zun 0; have zu1 := zun 1; have zu2 := zun 2; have zu3 := zun 3; have zu4 := zun 4; have zu5 := zun 5; have zu6 := zun 6; have zu7 := zun 7; have zu8 := zun 8; have zu9 := zun 9
    clear zun
    go_wp2_with fail
    have HF := put10 (w1.setCell ⟨C, 7, none⟩ (.string ⟨s.toArray⟩)) (C + 1) (.int .i64 x.c.op) (.string ⟨x.c.key.toArray⟩) (.slice x.KA x.c.keys.length x.kc) (.slice x.VA x.c.value.length x.vc) (.slice x.TA x.c.tags.length x.tc) (.int .u64 (x.c.life : Int)) (.int .u64 (x.c.version : Int)) (.string ⟨s.toArray⟩) (.string ⟨x.c.pre.toArray⟩) (.string ⟨x.c.child.toArray⟩)
    have hz := HB1.out.size; have hs0 := HS0.out; have hbc := HBC.out
    have HBW : Below C w w1 := HB0.out.trans (HB1.out.mono (by omega))
    have HBS : Below C w (w1.setCell ⟨C, 7, none⟩ (.string ⟨s.toArray⟩)) := HBW.setCell (Nat.le_refl _) _
    have HBF := HBS.trans (HF.below (B := C) (fun j e => by omega) (by have h1 := HBS.size; have h2 := HC.out; omega))
    have g := HG.out _ HBF
    have szF := HF.size
    have szW : (w1.setCell ⟨C, 7, none⟩ (.string ⟨s.toArray⟩)).heap.size = w1.heap.size := by simp
    rw [szW] at szF
    have gy : Got B _ ({ x with c := { x.c with tag := s } } : Com) := ⟨⟨g.rc.rk, g.rc.nk, g.rc.rv, g.rc.nv, g.rc.rt, g.rc.nt⟩, ⟨g.bnd.op1, g.bnd.op2, g.bnd.key, g.bnd.child, (by show s.length ≤ 1000000; omega), g.bnd.pre, g.bnd.value, g.bnd.keys, g.bnd.tags, g.bnd.eachK, g.bnd.eachT, g.bnd.life, g.bnd.version⟩, g.nk, g.nt, g.bk, g.bv, g.bt⟩
    exact bodyPost_ret (v := .tuple #[comV { x with c := { x.c with tag := s } }, .slice A1 r1.length c1, .bool b]) (by unfold comV; simp [results, Tryd.results42, go_sem, z0, z1, z2, z3, z4, z5, z6, z7, z8, z9]) rfl ⟨{ x with c := { x.c with tag := s } }, A1, r1, c1, b, rfl, HBF, gy, HTO.out, by rw [HRP.out]; exact opt_map HRD.out rfl, hrl, (fun _ _ h => h)⟩
  · have HRP : Hid (rdPart x.c 112 l = (rdS l).map fun p => ({ x.c with pre := p.1 }, p.2)) := by show _ = _; simp (decide := true) only [rdPart, if_true, if_false]
    show Calls _ _ #[_, .int .u8 112, _] _ _
    have HQ := Lib.hid (rtext_any A l c w0 HAr (by omega))
    clear HAr
    go_enter Tryd.func42, Tryd.ntmps42
    go_upto_region 1 with fail
    rw [← hw0, ← hC]
    have HC := Lib.hid hC
    clear hw0 hC
    go_wp2_with fail
    with_reducible refine HQ.out.mono ?_
    rintro e w1 ⟨s, A1, r1, c1, b, rfl, b1, hto, hrd, hsl, hrl⟩
    have HTO := Lib.hid hto; have HRD := Lib.hid hrd; have HB1 := Lib.hid b1
    clear hto hrd b1 HQ
    have BX1 := Lib.hid (HX.out.below HB1.out (Nat.le_refl _))
    have BZ1 := Lib.hid (HZ.out.below HB1.out (Nat.le_refl _))
    have fz := BX1.out.un 8
    obtain ⟨x0, x1, x2, x3, x4, x5, x6, x7, x8, x9, _⟩ := BX1.out
    obtain ⟨z0, z1, z2, z3, z4, z5, z6, z7, z8, z9, zun⟩ := BZ1.out
    have zu0 := zun 0; have zu1 := zun 1; have zu2 := zun 2; have zu3 := zun 3; have zu4 := zun 4; have zu5 := zun 5; have zu6 := zun 6; have zu7 := zun 7; have zu8 := zun 8; have zu9 := zun 9
    clear zun
    go_wp2_with fail
    have HF := put10 (w1.setCell ⟨C, 8, none⟩ (.string ⟨s.toArray⟩)) (C + 1) (.int .i64 x.c.op) (.string ⟨x.c.key.toArray⟩) (.slice x.KA x.c.keys.length x.kc) (.slice x.VA x.c.value.length x.vc) (.slice x.TA x.c.tags.length x.tc) (.int .u64 (x.c.life : Int)) (.int .u64 (x.c.version : Int)) (.string ⟨x.c.tag.toArray⟩) (.string ⟨s.toArray⟩) (.string ⟨x.c.child.toArray⟩)
    have hz := HB1.out.size; have hs0 := HS0.out; have hbc := HBC.out
    have HBW : Below C w w1 := HB0.out.trans (HB1.out.mono (by omega))
    have HBS : Below C w (w1.setCell ⟨C, 8, none⟩ (.string ⟨s.toArray⟩)) := HBW.setCell (Nat.le_refl _) _
    have HBF := HBS.trans (HF.below (B := C) (fun j e => by omega) (by have h1 := HBS.size; have h2 := HC.out; omega))
    have g := HG.out _ HBF
    have szF := HF.size
    have szW : (w1.setCell ⟨C, 8, none⟩ (.string ⟨s.toArray⟩)).heap.size = w1.heap.size := by simp
    rw [szW] at szF
    have gy : Got B _ ({ x with c := { x.c with pre := s } } : Com) := ⟨⟨g.rc.rk, g.rc.nk, g.rc.rv, g.rc.nv, g.rc.rt, g.rc.nt⟩, ⟨g.bnd.op1, g.bnd.op2, g.bnd.key, g.bnd.child, g.bnd.tag, (by show s.length ≤ 1000000; omega), g.bnd.value, g.bnd.keys, g.bnd.tags, g.bnd.eachK, g.bnd.eachT, g.bnd.life, g.bnd.version⟩, g.nk, g.nt, g.bk, g.bv, g.bt⟩
    exact bodyPost_ret (v := .tuple #[comV { x with c := { x.c with pre := s } }, .slice A1 r1.length c1, .bool b]) (by unfold comV; simp [results, Tryd.results42, go_sem, z0, z1, z2, z3, z4, z5, z6, z7, z8, z9]) rfl ⟨{ x with c := { x.c with pre := s } }, A1, r1, c1, b, rfl, HBF, gy, HTO.out, by rw [HRP.out]; exact opt_map HRD.out rfl, hrl, (fun _ _ h => h)⟩
  · have HRP : Hid (rdPart x.c 99 l = (rdS l).map fun p => ({ x.c with child := p.1 }, p.2)) := by show _ = _; simp (decide := true) only [rdPart, if_false]
    show Calls _ _ #[_, .int .u8 99, _] _ _
    have HQ := Lib.hid (rtext_any A l c w0 HAr (by omega))
    clear HAr
    go_enter Tryd.func42, Tryd.ntmps42
    go_upto_region 1 with fail
    rw [← hw0, ← hC]
    have HC := Lib.hid hC
    clear hw0 hC
    go_wp2_with fail
    with_reducible refine HQ.out.mono ?_
    rintro e w1 ⟨s, A1, r1, c1, b, rfl, b1, hto, hrd, hsl, hrl⟩
    have HTO := Lib.hid hto; have HRD := Lib.hid hrd; have HB1 := Lib.hid b1
    clear hto hrd b1 HQ
    have BX1 := Lib.hid (HX.out.below HB1.out (Nat.le_refl _))
    have BZ1 := Lib.hid (HZ.out.below HB1.out (Nat.le_refl _))
    have fz := BX1.out.un 9
    obtain ⟨x0, x1, x2, x3, x4, x5, x6, x7, x8, x9, _⟩ := BX1.out
    obtain ⟨z0, z1, z2, z3, z4, z5, z6, z7, z8, z9, zun⟩ := BZ1.out
    have zu0 := zun 0; have zu1 := zun 1; have zu2 := zun 2; have zu3 := zun 3; have zu4 := zun 4; have zu5 := zun 5; have zu6 := zun 6; have zu7 := zun 7; have zu8 := zun 8; have zu9 := zun 9
    clear zun
    go_wp2_with fail
    have HF := put10 (w1.setCell ⟨C, 9, none⟩ (.string ⟨s.toArray⟩)) (C + 1) (.int .i64 x.c.op) (.string ⟨x.c.key.toArray⟩) (.slice x.KA x.c.keys.length x.kc) (.slice x.VA x.c.value.length x.vc) (.slice x.TA x.c.tags.length x.tc) (.int .u64 (x.c.life : Int)) (.int .u64 (x.c.version : Int)) (.string ⟨x.c.tag.toArray⟩) (.string ⟨x.c.pre.toArray⟩) (.string ⟨s.toArray⟩)
    have hz := HB1.out.size; have hs0 := HS0.out; have hbc := HBC.out
    have HBW : Below C w w1 := HB0.out.trans (HB1.out.mono (by omega))
    have HBS : Below C w (w1.setCell ⟨C, 9, none⟩ (.string ⟨s.toArray⟩)) := HBW.setCell (Nat.le_refl _) _
    have HBF := HBS.trans (HF.below (B := C) (fun j e => by omega) (by have h1 := HBS.size; have h2 := HC.out; omega))
    have g := HG.out _ HBF
    have szF := HF.size
    have szW : (w1.setCell ⟨C, 9, none⟩ (.string ⟨s.toArray⟩)).heap.size = w1.heap.size := by simp
    rw [szW] at szF
    have gy : Got B _ ({ x with c := { x.c with child := s } } : Com) := ⟨⟨g.rc.rk, g.rc.nk, g.rc.rv, g.rc.nv, g.rc.rt, g.rc.nt⟩, ⟨g.bnd.op1, g.bnd.op2, g.bnd.key, (by show s.length ≤ 1000000; omega), g.bnd.tag, g.bnd.pre, g.bnd.value, g.bnd.keys, g.bnd.tags, g.bnd.eachK, g.bnd.eachT, g.bnd.life, g.bnd.version⟩, g.nk, g.nt, g.bk, g.bv, g.bt⟩
    exact bodyPost_ret (v := .tuple #[comV { x with c := { x.c with child := s } }, .slice A1 r1.length c1, .bool b]) (by unfold comV; simp [results, Tryd.results42, go_sem, z0, z1, z2, z3, z4, z5, z6, z7, z8, z9]) rfl ⟨{ x with c := { x.c with child := s } }, A1, r1, c1, b, rfl, HBF, gy, HTO.out, by rw [HRP.out]; exact opt_map HRD.out rfl, hrl, (fun _ _ h => h)⟩
end Go.Proofs.YtefadkdngcbpiaaDoor.Qze
namespace Go.Proofs.YtefadkdngcbpiaaDoor.Qzf
open Go.RowKit Vm Ap Vw Va Vg Vgr Vp Vpr Gc Mi Mb Qm Qs Qe Qo Qc Qg Qj Qzd Qze

def rrPost (w : World) (R : Option Cmd) : Ending → World → Prop := fun e w' =>
  ∃ x, e = .returned (.tuple #[comV x, .bool R.isSome]) ∧ Got w.heap.size w' x ∧ (∀ c, R = some c → x.c = c) ∧ (R = none → x = zeroC) ∧ Below w.heap.size w w'
theorem rd_next {ls : Bs} {k : Nat} (h : k < ls.length) {c c2 : Cmd} {r r2 : Bs} (hr : rdPart c ls[k] r = some (c2, r2)) : rdAll (ls.drop (k + 1)) c2 r2 = rdAll (ls.drop k) c r := by
  rw [List.drop_eq_getElem_cons h, rdAll, hr]
theorem rd_stop {ls : Bs} {k : Nat} (h : k < ls.length) {c : Cmd} {r : Bs} (hr : rdPart c ls[k] r = none) : rdAll (ls.drop k) c r = none := by
  rw [List.drop_eq_getElem_cons h, rdAll, hr]
theorem box_put {w : World} {g : Nat} {a : Com} (h : Box w g a) (x : Com) : Box ((((((((((w.setCell ⟨g, 0, none⟩ (.int .i64 x.c.op)).setCell ⟨g, 1, none⟩ (.string ⟨x.c.key.toArray⟩)).setCell ⟨g, 2, none⟩ (.slice x.KA x.c.keys.length x.kc)).setCell ⟨g, 3, none⟩ (.slice x.VA x.c.value.length x.vc)).setCell ⟨g, 4, none⟩ (.slice x.TA x.c.tags.length x.tc)).setCell ⟨g, 5, none⟩ (.int .u64 (x.c.life : Int))).setCell ⟨g, 6, none⟩ (.int .u64 (x.c.version : Int))).setCell ⟨g, 7, none⟩ (.string ⟨x.c.tag.toArray⟩)).setCell ⟨g, 8, none⟩ (.string ⟨x.c.pre.toArray⟩)).setCell ⟨g, 9, none⟩ (.string ⟨x.c.child.toArray⟩)) g x := by
  obtain ⟨h0, h1, h2, h3, h4, h5, h6, h7, h8, h9, hu⟩ := h
  refine ⟨?_, ?_, ?_, ?_, ?_, ?_, ?_, ?_, ?_, ?_, fun j => ?_⟩
  all_goals simp [go_sem, h0, h1, h2, h3, h4, h5, h6, h7, h8, h9, hu]
theorem got_put {B g : Nat} {w w' : World} {z : Com} (h : Got B w z) (ho : Only (fun j => j = g) w w') (hoff : Off g z) : Got B w' z :=
  ⟨h.rc.only ho hoff.1 hoff.2.1 hoff.2.2, h.bnd, h.nk, h.nt, fun a ha => ⟨(h.bk a ha).1, Nat.lt_of_lt_of_le (h.bk a ha).2 ho.size⟩, fun a ha => ⟨(h.bv a ha).1, Nat.lt_of_lt_of_le (h.bv a ha).2 ho.size⟩, fun a ha => ⟨(h.bt a ha).1, Nat.lt_of_lt_of_le (h.bt a ha).2 ho.size⟩⟩
set_option maxRecDepth 100000 in
set_option maxHeartbeats 16000000 in
theorem rrd_any (fc : UInt8) (A : Option Addr) (p : Bs) (d : Nat) (w : World) (hA : Arg w A p d) (hp : p.length ≤ 1000000) :
    Calls Tryd.prog 24 #[.agg #[.int .u8 (fc.toNat : Int), .slice A p.length d]] w (rrPost w (readR (fc.toNat : Int) p)) := by
  obtain ⟨C, hC⟩ : ∃ C, C = w.heap.size := ⟨_, rfl⟩
  obtain ⟨op, hop⟩ : ∃ op : Int, op = (fc.toNat : Int) := ⟨_, rfl⟩
  have fcl := fc.toNat_lt
  have hob : 0 ≤ op ∧ op < 256 := by omega
  rw [← hop]
  clear hop fcl
  obtain ⟨w0, hw0⟩ : ∃ w0, w0 = ((w.alloc (.cells #[.int .u8 op, .slice A p.length d] 42)).alloc (comO zeroC)).alloc (comO (startC op)) := ⟨_, rfl⟩
  have B0 : Below C w w0 := by rw [hw0, hC]; exact (two_below w _ _).alloc (by simp; omega) _
  have CF0 : Cel w0 C (.int .u8 op) (.slice A p.length d) := by rw [hw0, hC]; exact ((Cel.new w _ _ _).below (alloc_below _ _) (Nat.le_refl _)).below (alloc_below _ _) (Nat.le_refl _)
  have BZ0 : Box w0 (C + 1) zeroC := by
    have hb := (Box.new (w.alloc (.cells #[.int .u8 op, .slice A p.length d] 42)) zeroC).below (alloc_below _ (comO (startC op))) (Nat.le_refl _)
    have e : (w.alloc (.cells #[.int .u8 op, .slice A p.length d] 42)).heap.size = w.heap.size + 1 := by simp
    rw [e] at hb
    rw [hw0, hC]; exact hb
  have BO0 : Box w0 (C + 2) (startC op) := by
    have hb := Box.new ((w.alloc (.cells #[.int .u8 op, .slice A p.length d] 42)).alloc (comO zeroC)) (startC op)
    have e : ((w.alloc (.cells #[.int .u8 op, .slice A p.length d] 42)).alloc (comO zeroC)).heap.size = w.heap.size + 2 := by simp
    rw [e] at hb
    rw [hw0, hC]; exact hb
  have hs0 : w0.heap.size = C + 3 := by rw [hw0, hC]; simp
  have e0 : comO zeroC = .cells #[.int .i64 0, .string ⟨#[]⟩, .slice none 0 0, .slice none 0 0, .slice none 0 0, .int .u64 0, .int .u64 0, .string ⟨#[]⟩, .string ⟨#[]⟩, .string ⟨#[]⟩] 28 := rfl
  have e1 : comO (startC op) = .cells #[.int .i64 op, .string ⟨#[]⟩, .slice none 0 0, .slice none 0 0, .slice none 0 0, .int .u64 0, .int .u64 0, .string ⟨#[]⟩, .string ⟨#[]⟩, .string ⟨#[]⟩] 28 := rfl
  have HF := Lib.hid CF0; have HZ := Lib.hid BZ0; have HO := Lib.hid BO0
  have HB0 := Lib.hid B0; have HS0 := Lib.hid hs0
  have HAW : Hid (∀ W, Below C w W → Arg W A p d) := fun W h => arg_below (B := C) hA h (by omega)
  have HNE := Lib.hid (fun W => needs_any op W)
  unfold needsS at HNE
  have HNI := Lib.hid (needs_nine op)
  have HN5 := needs_len op
  have HRR : Hid (readR op p = match rdAll (needs op) (bare op) p with | none => none | some (c, r) => if r = [] ∧ validR c = true then some c else none) := rfl
  have HGS : Hid (Got (C + 3) w0 (startC op)) := ⟨⟨Rd.nil _ _, fun _ => rfl, Rb.nil _ _, fun _ => rfl, Rd.nil _ _, fun _ => rfl⟩, bnd_bare op (by omega) (by omega), Nat.zero_le _, Nat.zero_le _, (fun a e => by cases e), (fun a e => by cases e), (fun a e => by cases e)⟩
  generalize readR op p = R at *
  generalize needs op = ls at *
  have hll : ls.length ≤ 9223372036854775807 := by omega
  rw [e0, e1] at hw0
  clear e0 e1 B0 BZ0 BO0 hs0 hA
  obtain ⟨cf0, cf1, _, _⟩ := CF0
  go_enter Tryd.func24, Tryd.ntmps24
  go_upto_region 2 with fail
  rw [← hw0, ← hC]
  have HC := Lib.hid hC
  clear hw0 hC
  obtain ⟨o0, _, _, _, _, _, _, _, _, _, _⟩ := HO.out
  have o0' : w0.cell? ⟨C + 2, 0, none⟩ = some (.int .i64 op) := o0
  clear o0
  go_wp2_with fail
  refine (HNE.out _).mono ?_
  rintro e wx ⟨rfl, rfl⟩
  go_wp2_with fail
  clear o0' cf0 cf1
  go_loopw [5, 7] (fun bv i wr => ∃ (k : Nat) (x : Com) (A2 : Option Addr) (r : Bs) (c2 : Nat), k ≤ ls.length ∧ i = .int .i64 (k : Int) ∧ bv = .slice A2 r.length c2 ∧ Box wr (C + 2) x ∧ Got (C + 3) wr x ∧ (∀ W, Arg W A p d → Arg W A2 r c2) ∧ r.length ≤ p.length ∧ rdAll (ls.drop k) x.c r = rdAll ls (bare op) p ∧ Only (fun j => j = C + 2) w0 wr) (fun _ i _ => ls.length - (intOf i).toNat)
  case atStart => exact ⟨0, startC op, A, p, d, Nat.zero_le _, rfl, rfl, HO.out, HGS.out, fun _ h => h, Nat.le_refl _, rfl, Only.refl _ _⟩
  case round =>
    obtain ⟨k, x, A2, r, c2, hk, rfl, rfl, hbo, hgo, hto, hrl, hrd, hon⟩ := hrel
    obtain ⟨wo, rfl⟩ : ∃ wo : World, wo = wr := ⟨_, rfl⟩
    have HBO := Lib.hid hbo; have HGO := Lib.hid hgo; have HTO := Lib.hid hto; have HRD := Lib.hid hrd; have HON := Lib.hid hon
    have hcs := HS0.out
    have hsz : C + 3 ≤ wo.heap.size := by have := hon.size; omega
    have HBW : Hid (Below C w wo) := HB0.out.trans (hon.below (fun j e => by omega) (by omega))
    clear hbo hgo hto hrd hon
    by_cases hlt : k < ls.length
    · have hi := fun W => idx_let ls k hlt W
      have hn9 := HNI.out _ (List.getElem_mem hlt)
      have HNX := Lib.hid (fun (c2' : Cmd) (r2 : Bs) (h : rdPart x.c ls[k] r = some (c2', r2)) => rd_next hlt h)
      have HST := Lib.hid (fun (h : rdPart x.c ls[k] r = none) => rd_stop hlt h)
      have i1 : (k : Int) < ls.length := by omega
      obtain ⟨y, hy⟩ : ∃ y, y = ls[k] := ⟨_, rfl⟩
      rw [← hy] at hi HNX HST hn9
      have hyl := y.toNat_lt
      have HRE : Hid (∀ W, Below wo.heap.size wo W → Calls Tryd.prog 42 #[comV x, .int .u8 (y.toNat : Int), .slice A2 r.length c2] W (readPost (C + 3) W x y A2 r c2)) := fun W h =>
        rread_any (C + 3) x y hn9 A2 r c2 W (HGO.out.below h (Nat.le_refl _)) (Nat.le_trans hsz h.size) (HTO.out W (HAW.out W (HBW.out.trans (h.mono (by omega))))) (by omega)
      unfold comV at HRE
      have k0 : ∀ v, Below wo.heap.size wo v → v.cell? ⟨C + 2, 0, none⟩ = some (.int .i64 x.c.op) := fun v h => (HBO.out.below h (Nat.le_refl _)).c0
      have k1 : ∀ v, Below wo.heap.size wo v → v.cell? ⟨C + 2, 1, none⟩ = some (.string ⟨x.c.key.toArray⟩) := fun v h => (HBO.out.below h (Nat.le_refl _)).c1
      have k2 : ∀ v, Below wo.heap.size wo v → v.cell? ⟨C + 2, 2, none⟩ = some (.slice x.KA x.c.keys.length x.kc) := fun v h => (HBO.out.below h (Nat.le_refl _)).c2
      have k3 : ∀ v, Below wo.heap.size wo v → v.cell? ⟨C + 2, 3, none⟩ = some (.slice x.VA x.c.value.length x.vc) := fun v h => (HBO.out.below h (Nat.le_refl _)).c3
      have k4 : ∀ v, Below wo.heap.size wo v → v.cell? ⟨C + 2, 4, none⟩ = some (.slice x.TA x.c.tags.length x.tc) := fun v h => (HBO.out.below h (Nat.le_refl _)).c4
      have k5 : ∀ v, Below wo.heap.size wo v → v.cell? ⟨C + 2, 5, none⟩ = some (.int .u64 (x.c.life : Int)) := fun v h => (HBO.out.below h (Nat.le_refl _)).c5
      have k6 : ∀ v, Below wo.heap.size wo v → v.cell? ⟨C + 2, 6, none⟩ = some (.int .u64 (x.c.version : Int)) := fun v h => (HBO.out.below h (Nat.le_refl _)).c6
      have k7 : ∀ v, Below wo.heap.size wo v → v.cell? ⟨C + 2, 7, none⟩ = some (.string ⟨x.c.tag.toArray⟩) := fun v h => (HBO.out.below h (Nat.le_refl _)).c7
      have k8 : ∀ v, Below wo.heap.size wo v → v.cell? ⟨C + 2, 8, none⟩ = some (.string ⟨x.c.pre.toArray⟩) := fun v h => (HBO.out.below h (Nat.le_refl _)).c8
      have k9 : ∀ v, Below wo.heap.size wo v → v.cell? ⟨C + 2, 9, none⟩ = some (.string ⟨x.c.child.toArray⟩) := fun v h => (HBO.out.below h (Nat.le_refl _)).c9
      clear hy hn9
      go_wp2_with fail
      refine wp_region_noPanic ?_
      refine wp_region_held_drew (S := fun v => Below wo.heap.size wo v) (by kernel_rfl) ((Below.refl _ _).drew) (fun hHeld => ?_)
      refine wpAnyH_take (i := 0) (oi := ⟨some 27, _, _, _, _, _⟩) (v := ?_) rfl (by kernel_rfl) (by kernel_rfl) (by kernel_rfl) (fun _ _ _ h => h) (Or.inl ⟨by rfl, ?_⟩) (by assumption) ?_
      rotate_left
      · intro w hSw; go_simp; first | done | with_reducible rfl
      try simp only [Act.put, List.setIfInBounds_toArray, List.set_cons_zero, List.set_cons_succ]
      refine wpAnyH_take (i := 1) (oi := ⟨some 28, _, _, _, _, _⟩) (v := ?_) rfl (by kernel_rfl) (by kernel_rfl) (by kernel_rfl) (fun _ _ _ h => h) (Or.inl ⟨by rfl, ?_⟩) (by assumption) ?_
      rotate_left
      · intro w hSw; go_simp; first | done | with_reducible rfl
      try simp only [Act.put, List.setIfInBounds_toArray, List.set_cons_zero, List.set_cons_succ]
      refine wpAnyH_take (i := 2) (oi := ⟨some 29, _, _, _, _, _⟩) (v := ?_) rfl (by kernel_rfl) (by kernel_rfl) (by kernel_rfl) (fun _ _ _ h => h) (Or.inl ⟨by rfl, ?_⟩) (by assumption) ?_
      rotate_left
      · intro w hSw; go_simp; first | done | with_reducible rfl
      try simp only [Act.put, List.setIfInBounds_toArray, List.set_cons_zero, List.set_cons_succ]
      refine wpAnyH_take (i := 3) (oi := ⟨some 30, _, _, _, _, _⟩) (v := ?_) rfl (by kernel_rfl) (by kernel_rfl) (by kernel_rfl) (fun _ _ _ h => h) (Or.inl ⟨by rfl, ?_⟩) (by assumption) ?_
      rotate_left
      · intro w hSw; go_simp; first | done | with_reducible rfl
      try simp only [Act.put, List.setIfInBounds_toArray, List.set_cons_zero, List.set_cons_succ]
      refine wpAnyH_take (i := 4) (oi := ⟨some 31, _, _, _, _, _⟩) (v := ?_) rfl (by kernel_rfl) (by kernel_rfl) (by kernel_rfl) (fun _ _ _ h => h) (Or.inl ⟨by rfl, ?_⟩) (by assumption) ?_
      rotate_left
      · intro w hSw; go_simp; first | done | with_reducible rfl
      try simp only [Act.put, List.setIfInBounds_toArray, List.set_cons_zero, List.set_cons_succ]
      refine wpAnyH_ready (rs := [5, 10]) (by kernel_rfl) (by simp) ?_
      refine AllReadyH.cons (o := ⟨some 32, _, _, _, _, _⟩) rfl (fun K hK => ?ca) (AllReadyH.cons (o := ⟨some 8, _, _, _, _, _⟩) rfl (fun K hK => ?cb) AllReadyH.nil)
      case' ca =>
        go_simp
        with_reducible refine (HRE.out _ hHeld).mono ?_
        rintro e w2 ⟨z, A3, r3, c3, b3, rfl, b2, hgz, hto3, hrd3, hrl3, hoff⟩
        unfold comV
        have HB2 : Hid (Below wo.heap.size wo w2) := hHeld.trans (b2.mono hHeld.size)
        have HGZ := Lib.hid hgz; have HTO3 := Lib.hid hto3; have HRD3 := Lib.hid hrd3
        clear b2 hgz hto3 hrd3 hoff
        go_simp
        refine hK.out _ _ HB2.out (fun hHeld => ?_)
        clear hK K
        try simp only [Act.put, List.setIfInBounds_toArray, List.set_cons_zero, List.set_cons_succ]
        refine wpAnyH_take (i := 6) (oi := ⟨some 26, _, _, _, _, _⟩) (v := ?_) rfl (by kernel_rfl) (by kernel_rfl) (by kernel_rfl) (fun _ _ _ h => h) (Or.inl ⟨by rfl, ?_⟩) (by assumption) ?_
        rotate_left
        · intro w hSw; go_simp; first | done | with_reducible rfl
        try simp only [Act.put, List.setIfInBounds_toArray, List.set_cons_zero, List.set_cons_succ]
        refine wpAnyH_take (i := 7) (oi := ⟨some 33, _, _, _, _, _⟩) (v := ?_) rfl (by kernel_rfl) (by kernel_rfl) (by kernel_rfl) (fun _ _ _ h => h) (Or.inl ⟨by rfl, ?_⟩) (by assumption) ?_
        rotate_left
        · intro w hSw; go_simp; first | done | with_reducible rfl
        try simp only [Act.put, List.setIfInBounds_toArray, List.set_cons_zero, List.set_cons_succ]
        refine wpAnyH_take (i := 8) (oi := ⟨some 34, _, _, _, _, _⟩) (v := ?_) rfl (by kernel_rfl) (by kernel_rfl) (by kernel_rfl) (fun _ _ _ h => h) (Or.inl ⟨by rfl, ?_⟩) (by assumption) ?_
        rotate_left
        · intro w hSw; go_simp; first | done | with_reducible rfl
        try simp only [Act.put, List.setIfInBounds_toArray, List.set_cons_zero, List.set_cons_succ]
        refine wpAnyH_take (i := 9) (oi := ⟨some 35, _, _, _, _, _⟩) (v := ?_) rfl (by kernel_rfl) (by kernel_rfl) (by kernel_rfl) (fun _ _ _ h => h) (Or.inl ⟨by rfl, ?_⟩) (by assumption) ?_
        rotate_left
        · intro w hSw; go_simp; first | done | with_reducible rfl
        try simp only [Act.put, List.setIfInBounds_toArray, List.set_cons_zero, List.set_cons_succ]
        refine wpAnyH_ready (rs := [10]) (by kernel_rfl) (by simp) ?_
        refine AllReadyH.cons (o := ⟨some 8, _, _, _, _, _⟩) rfl (fun K hK => ?_) AllReadyH.nil
        go_simp
        refine hK.out _ _ (HB2.out.alloc HB2.out.size _) (fun hHeld => ?_)
        clear hK K
        try simp only [Act.put, List.setIfInBounds_toArray, List.set_cons_zero, List.set_cons_succ]
        refine wpAnyH_ready (rs := [11]) (by kernel_rfl) (by simp) ?_
        refine AllReadyH.cons (o := ⟨none, _, _, _, _, _⟩) rfl (fun K hK => ?_) AllReadyH.nil
        go_simp
        obtain ⟨g, hg⟩ : ∃ g, g = w2.heap.size := ⟨_, rfl⟩
        obtain ⟨w4, hw4⟩ : ∃ w4, w4 = w2.alloc (comO z) := ⟨_, rfl⟩
        have BG4 : Hid (Box w4 g z) := by show Box _ _ _; rw [hw4, hg]; exact Box.new _ _
        have B4 : Below w2.heap.size w2 w4 := by rw [hw4]; exact alloc_below _ _
        have HG4 := Lib.hid (HGZ.out.below B4 (Nat.le_refl _))
        have HB4 := Lib.hid (HB2.out.trans (B4.mono HB2.out.size))
        have HGL : Hid (wo.heap.size ≤ g) := by show _ ≤ _; rw [hg]; exact HB2.out.size
        unfold comO at hw4
        rw [← hw4, ← hg]
        clear hw4 hg B4 HGZ HB2
        refine hK.out _ _ HB4.out (fun hHeld => ?_)
        clear hK K
        try simp only [Act.put, List.setIfInBounds_toArray, List.set_cons_zero, List.set_cons_succ]
        refine wpAnyH_take (i := 12) (oi := ⟨some 9, _, _, _, _, _⟩) (v := ?_) rfl (by kernel_rfl) (by kernel_rfl) (by kernel_rfl) (fun _ _ _ h => h) (Or.inl ⟨by rfl, ?_⟩) (by assumption) ?_
        rotate_left
        · intro w hSw; go_simp; first | done | with_reducible rfl
        try simp only [Act.put, List.setIfInBounds_toArray, List.set_cons_zero, List.set_cons_succ]
        refine wpAnyH_take (i := 13) (oi := ⟨some 10, _, _, _, _, _⟩) (v := ?_) rfl (by kernel_rfl) (by kernel_rfl) (by kernel_rfl) (fun _ _ _ h => h) (Or.inl ⟨by rfl, ?_⟩) (by assumption) ?_
        rotate_left
        · intro w hSw; go_simp; first | done | with_reducible rfl
        try simp only [Act.put, List.setIfInBounds_toArray, List.set_cons_zero, List.set_cons_succ]
        refine wpAnyH_done (by kernel_rfl) ?_ _
        refine NoPanic.normal ?_
      case' cb =>
        go_simp
        obtain ⟨g, hg⟩ : ∃ g, g = wo.heap.size := ⟨_, rfl⟩
        obtain ⟨wa, hwa⟩ : ∃ wa, wa = (wo.alloc (comO zeroC)).drew := ⟨_, rfl⟩
        have BA : Below wo.heap.size wo wa := by rw [hwa]; exact (alloc_below _ _).drew
        have BZa : Box wa g zeroC := by rw [hwa, hg]; exact (Box.new wo zeroC).only ((Only.refl (fun _ => False) _).drew) (fun h => h)
        have hga : g < wa.heap.size := BZa.lt
        have HOX : Hid (Off g x) := ⟨fun a ha e => by have := (HGO.out.bk a ha).2; omega, fun a ha e => by have := (HGO.out.bv a ha).2; omega, fun a ha e => by have := (HGO.out.bt a ha).2; omega⟩
        have HGL : Hid (wo.heap.size ≤ g) := by show _ ≤ _; omega
        have e0 : comO zeroC = .cells #[.int .i64 0, .string ⟨#[]⟩, .slice none 0 0, .slice none 0 0, .slice none 0 0, .int .u64 0, .int .u64 0, .string ⟨#[]⟩, .string ⟨#[]⟩, .string ⟨#[]⟩] 28 := rfl
        rw [e0] at hwa
        rw [← hwa, ← hg]
        refine hK.out _ _ BA (fun hHeld => ?_)
        clear hK K hwa hg e0 BA
        try simp only [Act.put, List.setIfInBounds_toArray, List.set_cons_zero, List.set_cons_succ]
        refine wpAnyH_ready (rs := [5]) (by kernel_rfl) (by simp) ?_
        refine AllReadyH.cons (o := ⟨some 32, _, _, _, _, _⟩) rfl (fun K hK => ?_) AllReadyH.nil
        go_simp
        with_reducible refine (HRE.out _ hHeld).mono ?_
        rintro e w2 ⟨z, A3, r3, c3, b3, rfl, b2, hgz, hto3, hrd3, hrl3, hoff⟩
        unfold comV
        have HB2 : Hid (Below wo.heap.size wo w2) := hHeld.trans (b2.mono hHeld.size)
        have HGZ := Lib.hid hgz; have HTO3 := Lib.hid hto3; have HRD3 := Lib.hid hrd3
        have HOZ := Lib.hid (hoff g hga HOX.out)
        have BZ2 := Lib.hid (BZa.below b2 (Nat.le_refl _))
        clear b2 hgz hto3 hrd3 hoff BZa hga
        go_simp
        refine hK.out _ _ HB2.out (fun hHeld => ?_)
        clear hK K
        try simp only [Act.put, List.setIfInBounds_toArray, List.set_cons_zero, List.set_cons_succ]
        refine wpAnyH_take (i := 6) (oi := ⟨some 26, _, _, _, _, _⟩) (v := ?_) rfl (by kernel_rfl) (by kernel_rfl) (by kernel_rfl) (fun _ _ _ h => h) (Or.inl ⟨by rfl, ?_⟩) (by assumption) ?_
        rotate_left
        · intro w hSw; go_simp; first | done | with_reducible rfl
        try simp only [Act.put, List.setIfInBounds_toArray, List.set_cons_zero, List.set_cons_succ]
        refine wpAnyH_take (i := 7) (oi := ⟨some 33, _, _, _, _, _⟩) (v := ?_) rfl (by kernel_rfl) (by kernel_rfl) (by kernel_rfl) (fun _ _ _ h => h) (Or.inl ⟨by rfl, ?_⟩) (by assumption) ?_
        rotate_left
        · intro w hSw; go_simp; first | done | with_reducible rfl
        try simp only [Act.put, List.setIfInBounds_toArray, List.set_cons_zero, List.set_cons_succ]
        refine wpAnyH_take (i := 8) (oi := ⟨some 34, _, _, _, _, _⟩) (v := ?_) rfl (by kernel_rfl) (by kernel_rfl) (by kernel_rfl) (fun _ _ _ h => h) (Or.inl ⟨by rfl, ?_⟩) (by assumption) ?_
        rotate_left
        · intro w hSw; go_simp; first | done | with_reducible rfl
        try simp only [Act.put, List.setIfInBounds_toArray, List.set_cons_zero, List.set_cons_succ]
        refine wpAnyH_take (i := 9) (oi := ⟨some 35, _, _, _, _, _⟩) (v := ?_) rfl (by kernel_rfl) (by kernel_rfl) (by kernel_rfl) (fun _ _ _ h => h) (Or.inl ⟨by rfl, ?_⟩) (by assumption) ?_
        rotate_left
        · intro w hSw; go_simp; first | done | with_reducible rfl
        try simp only [Act.put, List.setIfInBounds_toArray, List.set_cons_zero, List.set_cons_succ]
        obtain ⟨q0, q1, q2, q3, q4, q5, q6, q7, q8, q9, qu⟩ := BZ2.out
        have qu0 := qu 0; have qu1 := qu 1; have qu2 := qu 2; have qu3 := qu 3; have qu4 := qu 4; have qu5 := qu 5; have qu6 := qu 6; have qu7 := qu 7; have qu8 := qu 8; have qu9 := qu 9
        refine wpAnyH_ready (rs := [11]) (by kernel_rfl) (by simp) ?_
        refine AllReadyH.cons (o := ⟨none, _, _, _, _, _⟩) rfl (fun K hK => ?_) AllReadyH.nil
        go_simp
        have OP := put10 w2 g (.int .i64 z.c.op) (.string ⟨z.c.key.toArray⟩) (.slice z.KA z.c.keys.length z.kc) (.slice z.VA z.c.value.length z.vc) (.slice z.TA z.c.tags.length z.tc) (.int .u64 (z.c.life : Int)) (.int .u64 (z.c.version : Int)) (.string ⟨z.c.tag.toArray⟩) (.string ⟨z.c.pre.toArray⟩) (.string ⟨z.c.child.toArray⟩)
        obtain ⟨w4, hw4⟩ : ∃ w4, w4 = ((((((((((w2.setCell ⟨g, 0, none⟩ (.int .i64 z.c.op)).setCell ⟨g, 1, none⟩ (.string ⟨z.c.key.toArray⟩)).setCell ⟨g, 2, none⟩ (.slice z.KA z.c.keys.length z.kc)).setCell ⟨g, 3, none⟩ (.slice z.VA z.c.value.length z.vc)).setCell ⟨g, 4, none⟩ (.slice z.TA z.c.tags.length z.tc)).setCell ⟨g, 5, none⟩ (.int .u64 (z.c.life : Int))).setCell ⟨g, 6, none⟩ (.int .u64 (z.c.version : Int))).setCell ⟨g, 7, none⟩ (.string ⟨z.c.tag.toArray⟩)).setCell ⟨g, 8, none⟩ (.string ⟨z.c.pre.toArray⟩)).setCell ⟨g, 9, none⟩ (.string ⟨z.c.child.toArray⟩)) := ⟨_, rfl⟩
        have BG4 : Hid (Box w4 g z) := by show Box _ _ _; rw [hw4]; exact box_put BZ2.out z
        rw [← hw4] at OP
        have HG4 := Lib.hid (got_put HGZ.out OP HOZ.out)
        have HB4 : Hid (Below wo.heap.size wo w4) := HB2.out.trans (OP.below (fun j e => by rw [e]; exact HGL.out) HB2.out.size)
        rw [← hw4]
        clear hw4 OP HGZ HB2 HOZ HOX BZ2 q0 q1 q2 q3 q4 q5 q6 q7 q8 q9 qu qu0 qu1 qu2 qu3 qu4 qu5 qu6 qu7 qu8 qu9
        refine hK.out _ _ HB4.out (fun hHeld => ?_)
        clear hK K
        try simp only [Act.put, List.setIfInBounds_toArray, List.set_cons_zero, List.set_cons_succ]
        refine wpAnyH_take (i := 12) (oi := ⟨some 9, _, _, _, _, _⟩) (v := ?_) rfl (by kernel_rfl) (by kernel_rfl) (by kernel_rfl) (fun _ _ _ h => h) (Or.inl ⟨by rfl, ?_⟩) (by assumption) ?_
        rotate_left
        · intro w hSw; go_simp; first | done | with_reducible rfl
        try simp only [Act.put, List.setIfInBounds_toArray, List.set_cons_zero, List.set_cons_succ]
        refine wpAnyH_take (i := 13) (oi := ⟨some 10, _, _, _, _, _⟩) (v := ?_) rfl (by kernel_rfl) (by kernel_rfl) (by kernel_rfl) (fun _ _ _ h => h) (Or.inl ⟨by rfl, ?_⟩) (by assumption) ?_
        rotate_left
        · intro w hSw; go_simp; first | done | with_reducible rfl
        try simp only [Act.put, List.setIfInBounds_toArray, List.set_cons_zero, List.set_cons_succ]
        refine wpAnyH_done (by kernel_rfl) ?_ _
        refine NoPanic.normal ?_
      all_goals
        have BO4 := Lib.hid (HBO.out.below HB4.out (Nat.le_refl _))
        have ON4 : Hid (Only (fun j => j = C + 2) w0 w4) := HON.out.trans (Only.of_below HB4.out (Nat.le_refl _) _)
        clear hHeld k0 k1 k2 k3 k4 k5 k6 k7 k8 k9 hi HRE
        cases b3
        · have HNONE : Hid (R = none) := by show _ = _; rw [HRR.out, ← HRD.out, HST.out HRD3.out]
          have zz := HZ.out.only ON4.out (show ¬ (C + 1 = C + 2) by omega)
          obtain ⟨z0, z1, z2, z3, z4, z5, z6, z7, z8, z9, zun⟩ := zz
          have zu0 := zun 0; have zu1 := zun 1; have zu2 := zun 2; have zu3 := zun 3; have zu4 := zun 4; have zu5 := zun 5; have zu6 := zun 6; have zu7 := zun 7; have zu8 := zun 8; have zu9 := zun 9
          clear zun
          go_wp2_with fail
          have HFz := put10 w4 (C + 1) (.int .i64 0) (.string ⟨#[]⟩) (.slice none 0 0) (.slice none 0 0) (.slice none 0 0) (.int .u64 0) (.int .u64 0) (.string ⟨#[]⟩) (.string ⟨#[]⟩) (.string ⟨#[]⟩)
          have HBz : Below C w w4 := HBW.out.trans (HB4.out.mono (by omega))
          have HBf := HBz.trans (HFz.below (B := C) (fun j e => by omega) (by have h1 := HBz.size; have h2 := HC.out; omega))
          replace HBf := HBf.mono (show w.heap.size ≤ C by have h2 := HC.out; omega)
          exact bodyPost_ret (v := .tuple #[comV zeroC, .bool false]) (by unfold comV zeroC bare; simp [results, Tryd.results24, go_sem, z0, z1, z2, z3, z4, z5, z6, z7, z8, z9]) rfl ⟨zeroC, by rw [HNONE.out]; rfl, got_zero _ _, (fun c e => by rw [HNONE.out] at e; cases e), fun _ => rfl, HBf⟩
        · have HNX2 := Lib.hid (HNX.out _ _ HRD3.out)
          obtain ⟨q0, q1, q2, q3, q4, q5, q6, q7, q8, q9, _⟩ := BG4.out
          obtain ⟨p0, p1, p2, p3, p4, p5, p6, p7, p8, p9, pun⟩ := BO4.out
          have pu0 := pun 0; have pu1 := pun 1; have pu2 := pun 2; have pu3 := pun 3; have pu4 := pun 4; have pu5 := pun 5; have pu6 := pun 6; have pu7 := pun 7; have pu8 := pun 8; have pu9 := pun 9
          have OP := put10 w4 (C + 2) (.int .i64 z.c.op) (.string ⟨z.c.key.toArray⟩) (.slice z.KA z.c.keys.length z.kc) (.slice z.VA z.c.value.length z.vc) (.slice z.TA z.c.tags.length z.tc) (.int .u64 (z.c.life : Int)) (.int .u64 (z.c.version : Int)) (.string ⟨z.c.tag.toArray⟩) (.string ⟨z.c.pre.toArray⟩) (.string ⟨z.c.child.toArray⟩)
          have BP := Lib.hid (box_put BO4.out z)
          have HOP := Lib.hid OP
          clear OP pun
          go_wp2_with fail
          go_roundw
          case rel => exact ⟨k + 1, z, A3, r3, c3, by omega, by go_num, rfl, BP.out, HG4.out.only HOP.out (fun j hj _ e => by omega), fun W h => HTO3.out W (HTO.out W h), by omega, by rw [HNX2.out]; exact HRD.out, ON4.out.trans (HOP.out.mono (fun j _ e => Or.inl e))⟩
          case measure => simp [intOf]; omega
    · obtain rfl : k = ls.length := by omega
      have hnn : ¬ (ls.length : Int) < ls.length := by omega
      have HRA : Hid (R = if r = [] ∧ validR x.c = true then some x.c else none) := by show _ = _; rw [HRR.out, ← HRD.out, List.drop_length, rdAll]
      by_cases hr0 : 0 < r.length
      · have hri : (0 : Int) < r.length := by omega
        have hne : r ≠ [] := fun e => by rw [e] at hr0; simp at hr0
        have HNONE : Hid (R = none) := by show _ = _; rw [HRA.out, if_neg (fun h => by rw [h.1] at hr0; simp at hr0)]
        have zz := HZ.out.only HON.out (show ¬ (C + 1 = C + 2) by omega)
        obtain ⟨z0, z1, z2, z3, z4, z5, z6, z7, z8, z9, zun⟩ := zz
        have zu0 := zun 0; have zu1 := zun 1; have zu2 := zun 2; have zu3 := zun 3; have zu4 := zun 4; have zu5 := zun 5; have zu6 := zun 6; have zu7 := zun 7; have zu8 := zun 8; have zu9 := zun 9
        clear zun
        clear hr0
        go_wp2_with fail
        have HFz := put10 wo (C + 1) (.int .i64 0) (.string ⟨#[]⟩) (.slice none 0 0) (.slice none 0 0) (.slice none 0 0) (.int .u64 0) (.int .u64 0) (.string ⟨#[]⟩) (.string ⟨#[]⟩) (.string ⟨#[]⟩)
        have HBz : Below C w wo := HBW.out
        have HBf := HBz.trans (HFz.below (B := C) (fun j e => by omega) (by have h1 := HBz.size; have h2 := HC.out; omega))
        replace HBf := HBf.mono (show w.heap.size ≤ C by have h2 := HC.out; omega)
        exact bodyPost_ret (v := .tuple #[comV zeroC, .bool false]) (by unfold comV zeroC bare; simp [results, Tryd.results24, go_sem, z0, z1, z2, z3, z4, z5, z6, z7, z8, z9]) rfl ⟨zeroC, by rw [HNONE.out]; rfl, got_zero _ _, (fun c e => by rw [HNONE.out] at e; cases e), fun _ => rfl, HBf⟩
      · have hri : ¬ (0 : Int) < r.length := by omega
        have hnil : r = [] := List.eq_nil_of_length_eq_zero (by omega)
        have HNIL := Lib.hid hnil
        have HV := Lib.hid (Qjc.rvalid_any x wo HGO.out.rc HGO.out.bnd)
        unfold comV at HV
        have HRV : Hid (R = if validR x.c = true then some x.c else none) := by show _ = _; rw [HRA.out, HNIL.out]; simp
        obtain ⟨c0, c1, c2', c3, c4, c5, c6, c7, c8, c9, _⟩ := HBO.out
        generalize validR x.c = vb at *
        clear hnil hr0 HRA
        go_wp2_with fail
        with_reducible refine HV.out.mono ?_
        rintro e w5 ⟨rfl, b5⟩
        have HB5 := Lib.hid (HBW.out.trans (b5.mono (by omega)))
        have ON5 : Hid (Only (fun j => j = C + 2) w0 w5) := HON.out.trans (Only.of_below b5 (Nat.le_refl _) _)
        have HG5 := Lib.hid (HGO.out.below b5 (Nat.le_refl _))
        have BO5 := Lib.hid (HBO.out.below b5 (Nat.le_refl _))
        clear b5 c0 c1 c2' c3 c4 c5 c6 c7 c8 c9
        have zz := HZ.out.only ON5.out (show ¬ (C + 1 = C + 2) by omega)
        obtain ⟨z0, z1, z2, z3, z4, z5, z6, z7, z8, z9, zun⟩ := zz
        have zu0 := zun 0; have zu1 := zun 1; have zu2 := zun 2; have zu3 := zun 3; have zu4 := zun 4; have zu5 := zun 5; have zu6 := zun 6; have zu7 := zun 7; have zu8 := zun 8; have zu9 := zun 9
        clear zun
        cases vb
        · have HNONE : Hid (R = none) := by show _ = _; rw [HRV.out]; rfl
          go_wp2_with fail
          have HFz := put10 w5 (C + 1) (.int .i64 0) (.string ⟨#[]⟩) (.slice none 0 0) (.slice none 0 0) (.slice none 0 0) (.int .u64 0) (.int .u64 0) (.string ⟨#[]⟩) (.string ⟨#[]⟩) (.string ⟨#[]⟩)
          have HBz : Below C w w5 := HB5.out
          have HBf := HBz.trans (HFz.below (B := C) (fun j e => by omega) (by have h1 := HBz.size; have h2 := HC.out; omega))
          replace HBf := HBf.mono (show w.heap.size ≤ C by have h2 := HC.out; omega)
          exact bodyPost_ret (v := .tuple #[comV zeroC, .bool false]) (by unfold comV zeroC bare; simp [results, Tryd.results24, go_sem, z0, z1, z2, z3, z4, z5, z6, z7, z8, z9]) rfl ⟨zeroC, by rw [HNONE.out]; rfl, got_zero _ _, (fun c e => by rw [HNONE.out] at e; cases e), fun _ => rfl, HBf⟩
        · have HSOME : Hid (R = some x.c) := by show _ = _; rw [HRV.out]; rfl
          obtain ⟨c0, c1, c2', c3, c4, c5, c6, c7, c8, c9, _⟩ := BO5.out
          go_wp2_with fail
          have HFz := put10 w5 (C + 1) (.int .i64 x.c.op) (.string ⟨x.c.key.toArray⟩) (.slice x.KA x.c.keys.length x.kc) (.slice x.VA x.c.value.length x.vc) (.slice x.TA x.c.tags.length x.tc) (.int .u64 (x.c.life : Int)) (.int .u64 (x.c.version : Int)) (.string ⟨x.c.tag.toArray⟩) (.string ⟨x.c.pre.toArray⟩) (.string ⟨x.c.child.toArray⟩)
          have HBf := HB5.out.trans (HFz.below (B := C) (fun j e => by omega) (by have h1 := HB5.out.size; have h2 := HC.out; omega))
          have HGf := (HG5.out.only HFz (fun j hj _ e => by omega)).mono (B' := w.heap.size) (by have h2 := HC.out; omega)
          replace HBf := HBf.mono (show w.heap.size ≤ C by have h2 := HC.out; omega)
          exact bodyPost_ret (v := .tuple #[comV x, .bool true]) (by unfold comV; simp [results, Tryd.results24, go_sem, z0, z1, z2, z3, z4, z5, z6, z7, z8, z9]) rfl ⟨x, by rw [HSOME.out]; rfl, HGf, (fun c e => by rw [HSOME.out] at e; injection e), (fun e => by rw [HSOME.out] at e; cases e), HBf⟩
end Go.Proofs.YtefadkdngcbpiaaDoor.Qzf
namespace Go.Proofs.YtefadkdngcbpiaaDoor.Qzg
open Go.RowKit Vm Ap Vw Va Gc Mi Mb Qm Qs Qe Qo Qc Qg Qk Ql Qzf

/-- The block that a slice of bytes lies in. -/
def At (O : Option Addr) (j : Nat) : Prop := ∃ a, O = some a ∧ a.block = j
set_option maxRecDepth 100000 in
set_option maxHeartbeats 16000000 in
theorem reads_walk (fc : UInt8) (F : Option Addr) (fp : Bs) (fk : Nat) (w : World) (he : Env w) (hF : Arg w F fp fk) :
    Calls Tryd.prog 6 #[.agg #[.int .u8 (fc.toNat : Int), .slice F fp.length fk]] w (boolOf true w) := by
  obtain ⟨w0, hw0⟩ : ∃ w0, w0 = w.alloc (.cells #[.int .u8 (fc.toNat : Int), .slice F fp.length fk] 42) := ⟨_, rfl⟩
  have B0 : Below w.heap.size w w0 := by rw [hw0]; exact alloc_below _ _
  have CF0 : Hid (Cel w0 w.heap.size (.int .u8 (fc.toNat : Int)) (.slice F fp.length fk)) := by show Cel _ _ _ _; rw [hw0]; exact Cel.new _ _ _ _
  have HB0 := Lib.hid B0
  have HE := Lib.hid (fun W (h : Below w.heap.size w W) => he.below h (Nat.le_refl _))
  have HF := Lib.hid (fun W (h : Below w.heap.size w W) => arg_below hF h (Nat.le_refl _))
  have HN := Lib.hid hF.non
  have HK := Lib.hid (fun W (h : Below w.heap.size w W) => known_any W (HE.out _ h))
  have hmx := hF.max; have hle := hF.le
  unfold maxLen at hmx
  have hfp : fp.length ≤ 9223372036854775807 := by omega
  obtain ⟨C, hC⟩ : ∃ C, C = w.heap.size := ⟨_, rfl⟩
  rw [← hC] at CF0
  clear B0 he hF hmx hle
  obtain ⟨q0, q1, _, _⟩ := CF0.out
  by_cases h1000 : 1000 < fp.length
  · have hi : (1000 : Int) < fp.length := by omega
    clear h1000
    go_enter Tryd.func6, Tryd.ntmps6
    go_upto_region 1 with fail
    rw [← hw0, ← hC]
    clear hw0 hC
    go_wp2_with fail
    refine (HK.out _ HB0.out).mono ?_
    rintro e w1 ⟨rfl, b1⟩
    have HB1 := Lib.hid (HB0.out.trans (b1.mono HB0.out.size))
    clear b1
    go_wp2_with fail
    go_ret
    exact ⟨rfl, HB1.out⟩
  have hi : ¬ (1000 : Int) < fp.length := by omega
  have hfl : fp.length ≤ 1000 := by omega
  have HRR := Lib.hid (fun W (h : Below w.heap.size w W) => rrd_any fc F fp fk W (HF.out _ h) (by omega))
  have HRD := Lib.hid (fun W A k (h : Below w.heap.size w W) (hA : Rb W A fp) => read_any fc A fp k W (HE.out _ h) hA (by omega))
  obtain ⟨R, hR⟩ : ∃ R, R = readR (fc.toNat : Int) fp := ⟨_, rfl⟩
  have HNO : Hid (R = none → ∀ W, Below w.heap.size w W → Calls Tryd.prog 25 #[.agg #[.int .u8 (fc.toNat : Int), .slice F fp.length fk], comV zeroC, .int .i64 6] W (boolOf true W)) := fun h0 W h => by
    have q := reads_any fc F fp fk zeroC 6 W (HE.out _ h) (HF.out _ h).rd (by omega) (got_zero 0 W).rc (got_zero 0 W).bnd
    have e : rdB (fc.toNat : Int) fp zeroC.c 6 = true := by unfold rdB; rw [← hR, h0]; rfl
    rw [e] at q; exact q
  unfold rrPost at HRR
  unfold rdPost at HRD
  rw [← hR] at HRR HRD
  clear hR h1000
  go_enter Tryd.func6, Tryd.ntmps6
  go_upto_region 1 with fail
  rw [← hw0, ← hC]
  have HC := Lib.hid hC
  clear hw0 hC
  go_wp2_with fail
  with_reducible refine (HRR.out _ HB0.out).mono ?_
  rintro e w1 ⟨x, rfl, hg, hx1, hx2, b1⟩
  unfold comV
  have HG1 := Lib.hid hg; have HX1 := Lib.hid hx1
  have HB1 := Lib.hid (HB0.out.trans (b1.mono HB0.out.size))
  have CF1 := Lib.hid (CF0.out.below b1 (Nat.le_refl _))
  have HZ1 := Lib.hid b1.size
  have HCL : Hid (C < w0.heap.size) := CF0.out.lt
  clear hg hx1 hx2 b1 CF0 q0 q1 HRR
  go_upto_region 4 with fail
  obtain ⟨w2, hw2⟩ : ∃ w2, w2 = w1.alloc (comO x) := ⟨_, rfl⟩
  have b2 : Below w1.heap.size w1 w2 := by rw [hw2]; exact alloc_below _ _
  have BX2 : Hid (Box w2 w1.heap.size x) := by show Box _ _ _; rw [hw2]; exact Box.new w1 x
  have HB2 := Lib.hid (HB1.out.trans (b2.mono HB1.out.size))
  have CF2 := Lib.hid (CF1.out.below b2 (Nat.le_refl _))
  have HG2 := Lib.hid (HG1.out.below b2 (Nat.le_refl _))
  have HZ2 : Hid (w0.heap.size ≤ w1.heap.size ∧ w1.heap.size < w2.heap.size) := ⟨HZ1.out, BX2.out.lt⟩
  unfold comO at hw2
  rw [← hw2]
  obtain ⟨X, hX⟩ : ∃ X, X = w1.heap.size := ⟨_, rfl⟩
  rw [← hX] at BX2 HZ2
  rw [← hX]
  clear hw2 b2 CF1 HG1 HB1 hX HZ1
  obtain ⟨q0, q1, _, _⟩ := CF2.out
  cases R with
  | none =>
    have HNO2 := Lib.hid (HNO.out rfl)
    unfold comV zeroC bare at HNO2
    clear HNO
    go_wp2_with fail
    refine (HNO2.out _ HB2.out).mono ?_
    rintro e w3 ⟨rfl, b3⟩
    have HB3 := Lib.hid (HB2.out.trans (b3.mono HB2.out.size))
    clear b3
    go_wp2_with fail
    refine (HK.out _ HB3.out).mono ?_
    rintro e w4 ⟨rfl, b4⟩
    have HB4 := Lib.hid (HB3.out.trans (b4.mono HB3.out.size))
    clear b4
    go_wp2_with fail
    go_ret
    exact ⟨rfl, HB4.out⟩
  | some c =>
  have HXC := Lib.hid (HX1.out c rfl)
  have HA := Lib.hid (HF.out _ HB2.out).rd
  clear HNO HX1
  have cx0 : ∀ v, Below w2.heap.size w2 v → v.cell? ⟨C, 0, none⟩ = some (.int .u8 (fc.toNat : Int)) := fun v h => (CF2.out.below h (Nat.le_refl _)).c0
  have cx1 : ∀ v, Below w2.heap.size w2 v → v.cell? ⟨C, 1, none⟩ = some (.slice F fp.length fk) := fun v h => (CF2.out.below h (Nat.le_refl _)).c1
  go_wp2_with fail
  refine wp_region_noPanic ?_
  refine wp_region_held_drew (S := fun v => Below w2.heap.size w2 v) (by kernel_rfl) ((Below.refl _ _).drew) (fun hHeld => ?_)
  refine wpAnyH_take (i := 0) (oi := ⟨some 27, _, _, _, _, _⟩) (v := ?_) rfl (by kernel_rfl) (by kernel_rfl) (by kernel_rfl) (fun _ _ _ h => h) (Or.inl ⟨by rfl, ?_⟩) (by assumption) ?_
  rotate_left
  · intro w hSw; go_simp; first | done | with_reducible rfl
  try simp only [Act.put, List.setIfInBounds_toArray, List.set_cons_zero, List.set_cons_succ]
  refine wpAnyH_take (i := 1) (oi := ⟨some 28, _, _, _, _, _⟩) (v := ?_) rfl (by kernel_rfl) (by kernel_rfl) (by kernel_rfl) (fun _ _ _ h => h) (Or.inl ⟨by rfl, ?_⟩) (by assumption) ?_
  rotate_left
  · intro w hSw; go_simp; first | done | with_reducible rfl
  try simp only [Act.put, List.setIfInBounds_toArray, List.set_cons_zero, List.set_cons_succ]
  refine wpAnyH_take (i := 2) (oi := ⟨some 29, _, _, _, _, _⟩) (v := ?_) rfl (by kernel_rfl) (by kernel_rfl) (by kernel_rfl) (fun _ _ _ h => h) (Or.inl ⟨by rfl, ?_⟩) (by assumption) ?_
  rotate_left
  · intro w hSw; go_simp; first | done | with_reducible rfl
  try simp only [Act.put, List.setIfInBounds_toArray, List.set_cons_zero, List.set_cons_succ]
  refine wpAnyH_take (i := 3) (oi := ⟨some 30, _, _, _, _, _⟩) (v := ?_) rfl (by kernel_rfl) (by kernel_rfl) (by kernel_rfl) (fun _ _ _ h => h) (Or.inl ⟨by rfl, ?_⟩) (by assumption) ?_
  rotate_left
  · intro w hSw; go_simp; first | done | with_reducible rfl
  try simp only [Act.put, List.setIfInBounds_toArray, List.set_cons_zero, List.set_cons_succ]
  refine wpAnyH_ready (rs := [4, 6]) (by kernel_rfl) (by simp) ?_
  refine AllReadyH.cons (o := ⟨some 31, _, _, _, _, _⟩) rfl (fun K hK => ?wa) (AllReadyH.cons (o := ⟨some 5, _, _, _, _, _⟩) rfl (fun K hK => ?wb) AllReadyH.nil)
  case' wa =>
    refine step_from rfl _ _ rfl rfl (own_nil w2.heap.size _) fp F fk rfl HN.out (HA.out.below hHeld (Nat.le_refl _)) (by simp) (by omega) hHeld.size ?_
    intro v28 w28 h28 g28
    obtain ⟨O, oc, shO⟩ := own_shape h28
    obtain rfl := shO.val
    have HO28 : Hid (Own w2.heap.size w28 (.slice O fp.length oc) fp) := h28
    have SO := Lib.hid shO
    have HB28 := Lib.hid (hHeld.grown g28 hHeld.size (by intro k e; cases e))
    clear h28 g28 shO
    refine hK.out _ _ HB28.out (fun hHeld => ?_)
    clear hK K
    try simp only [Act.put, List.setIfInBounds_toArray, List.set_cons_zero, List.set_cons_succ]
    refine wpAnyH_take (i := 5) (oi := ⟨some 32, _, _, _, _, _⟩) (v := ?_) rfl (by kernel_rfl) (by kernel_rfl) (by kernel_rfl) (fun _ _ _ h => h) (Or.inl ⟨by rfl, ?_⟩) (by assumption) ?_
    rotate_left
    · intro w hSw; go_simp; first | done | with_reducible rfl
    try simp only [Act.put, List.setIfInBounds_toArray, List.set_cons_zero, List.set_cons_succ]
    refine wpAnyH_ready (rs := [6]) (by kernel_rfl) (by simp) ?_
    refine AllReadyH.cons (o := ⟨some 5, _, _, _, _, _⟩) rfl (fun K hK => ?_) AllReadyH.nil
    go_simp
    refine hK.out _ _ (hHeld.alloc hHeld.size _) (fun hHeld => ?_)
    clear hK K
    try simp only [Act.put, List.setIfInBounds_toArray, List.set_cons_zero, List.set_cons_succ]
    refine wpAnyH_ready (rs := [7]) (by kernel_rfl) (by simp) ?_
    refine AllReadyH.cons (o := ⟨none, _, _, _, _, _⟩) rfl (fun K hK => ?_) AllReadyH.nil
    go_simp
    refine hK.out _ _ (HB28.out.alloc HB28.out.size _) (fun hHeld => ?_)
    clear hK K
    try simp only [Act.put, List.setIfInBounds_toArray, List.set_cons_zero, List.set_cons_succ]
    refine wpAnyH_done (by kernel_rfl) ?_ _
    refine NoPanic.normal ?_
    obtain ⟨w5, hw5⟩ : ∃ w5, w5 = w28.alloc (.cells #[.int .u8 (fc.toNat : Int), .slice O fp.length oc] 42) := ⟨_, rfl⟩
    have b5 : Below w28.heap.size w28 w5 := by rw [hw5]; exact alloc_below _ _
    have CF5 : Hid (Cel w5 w28.heap.size (.int .u8 (fc.toNat : Int)) (.slice O fp.length oc)) := by rw [hw5]; exact Cel.new _ _ _ _
    rw [← hw5]
    have HO5 : Hid (Own w2.heap.size w5 (.slice O fp.length oc) fp) := own_below HO28.out b5 (Nat.le_refl _)
    have HB5 : Hid (Below w2.heap.size w2 w5) := HB28.out.trans (b5.mono HB28.out.size)
    have HG5 : Hid (w2.heap.size ≤ w28.heap.size) := HB28.out.size
    have HNE : Hid (∀ a, O = some a → a.block ≠ w28.heap.size) := fun a e => by have := (SO.out.base a e).2; omega
    have HON := Lib.hid SO.out.non; have hol := SO.out.le; have hom := SO.out.max
    clear hw5 b5 hHeld HB28 HO28 SO
    generalize w28.heap.size = g5 at *
  case' wb =>
    go_simp
    refine hK.out _ _ (hHeld.alloc hHeld.size _) (fun hHeld => ?_)
    clear hK K
    try simp only [Act.put, List.setIfInBounds_toArray, List.set_cons_zero, List.set_cons_succ]
    refine wpAnyH_ready (rs := [4]) (by kernel_rfl) (by simp) ?_
    refine AllReadyH.cons (o := ⟨some 31, _, _, _, _, _⟩) rfl (fun K hK => ?_) AllReadyH.nil
    refine step_from rfl _ _ rfl rfl (own_nil (w2.heap.size + 1) _) fp F fk rfl HN.out (HA.out.below hHeld (Nat.le_refl _)) (by simp) (by omega) (by simp) ?_
    intro v28 w28 h28 g28
    obtain ⟨O, oc, shO⟩ := own_shape h28
    obtain rfl := shO.val
    have HO28 : Hid (Own (w2.heap.size + 1) w28 (.slice O fp.length oc) fp) := h28
    have SO := Lib.hid shO
    have hcn : Cel w28 w2.heap.size (.int .u8 0) (.slice none 0 0) := (Cel.new w2.drew (.int .u8 0) (.slice none 0 0) 42).below (below_of_grown g28 (Nat.le_refl _) (by intro k e; cases e)) (Nat.le_refl _)
    have HB28 : Hid (Below w2.heap.size w2 w28) := hHeld.grown g28 hHeld.size (by intro k e; cases e)
    clear h28 g28 shO
    refine hK.out _ _ HB28.out (fun hHeld => ?_)
    clear hK K
    try simp only [Act.put, List.setIfInBounds_toArray, List.set_cons_zero, List.set_cons_succ]
    refine wpAnyH_take (i := 5) (oi := ⟨some 32, _, _, _, _, _⟩) (v := ?_) rfl (by kernel_rfl) (by kernel_rfl) (by kernel_rfl) (fun _ _ _ h => h) (Or.inl ⟨by rfl, ?_⟩) (by assumption) ?_
    rotate_left
    · intro w hSw; go_simp; first | done | with_reducible rfl
    try simp only [Act.put, List.setIfInBounds_toArray, List.set_cons_zero, List.set_cons_succ]
    have CN := Lib.hid hcn
    obtain ⟨cy0, cy1, cf0, cf1⟩ := hcn
    refine wpAnyH_ready (rs := [7]) (by kernel_rfl) (by simp) ?_
    refine AllReadyH.cons (o := ⟨none, _, _, _, _, _⟩) rfl (fun K hK => ?_) AllReadyH.nil
    go_simp
    refine hK.out _ _ ((HB28.out.setCell (Nat.le_refl _) _).setCell (Nat.le_refl _) _) (fun hHeld => ?_)
    clear hK K
    try simp only [Act.put, List.setIfInBounds_toArray, List.set_cons_zero, List.set_cons_succ]
    refine wpAnyH_done (by kernel_rfl) ?_ _
    refine NoPanic.normal ?_
    have hcm := CN.out.set (.int .u8 (fc.toNat : Int)) (.slice O fp.length oc)
    have ho5 : Own w2.heap.size ((w28.setCell ⟨w2.heap.size, 0, none⟩ (.int .u8 (fc.toNat : Int))).setCell ⟨w2.heap.size, 1, none⟩ (.slice O fp.length oc)) (.slice O fp.length oc) fp := own_base (own_grown HO28.out (grown_store (grown_store (World.grownBy.refl w28 (some w2.heap.size)) 0 _) 1 _) (by
      cases O with
      | none => exact Or.inl rfl
      | some a => exact Or.inr (fun e => by have := (SO.out.base a rfl).1; injection e with e; omega))) (by omega)
    obtain ⟨w5, hw5⟩ : ∃ w5, w5 = (w28.setCell ⟨w2.heap.size, 0, none⟩ (.int .u8 (fc.toNat : Int))).setCell ⟨w2.heap.size, 1, none⟩ (.slice O fp.length oc) := ⟨_, rfl⟩
    obtain ⟨g5, hg5⟩ : ∃ g5, g5 = w2.heap.size := ⟨_, rfl⟩
    have HB5 : Hid (Below w2.heap.size w2 w5) := by rw [hw5]; exact (HB28.out.setCell (Nat.le_refl _) _).setCell (Nat.le_refl _) _
    rw [← hw5]
    rw [← hw5] at hcm ho5
    have HO5 := Lib.hid ho5
    have CF5 : Hid (Cel w5 g5 (.int .u8 (fc.toNat : Int)) (.slice O fp.length oc)) := by rw [hg5]; exact hcm
    have HG5 : Hid (w2.heap.size ≤ g5) := by rw [hg5]; exact Nat.le_refl _
    have HNE : Hid (∀ a, O = some a → a.block ≠ g5) := fun a e => by have := (SO.out.base a e).1; omega
    have HON := Lib.hid SO.out.non; have hol := SO.out.le; have hom := SO.out.max
    rw [← hg5]
    clear hw5 hcm ho5 hHeld HB28 HO28 SO hg5 cy0 cy1 cf0 cf1 CN
  all_goals
    unfold maxLen at hom
    clear cx0 cx1 q0 q1
    have HB5W := Lib.hid (HB2.out.trans (HB5.out.mono HB2.out.size))
    have BX5 := Lib.hid (BX2.out.below HB5.out (Nat.le_refl _))
    have HG25 := Lib.hid (HG2.out.below HB5.out (Nat.le_refl _))
    have HOB : Hid (∀ a, O = some a → w2.heap.size ≤ a.block ∧ a.block < w5.heap.size) := fun a e => by
      obtain ⟨O', c', s⟩ := own_shape HO5.out
      have := s.val
      injection this with e1
      exact s.base a (by rw [← e1]; exact e)
    have HRD5 := Lib.hid (HRD.out w5 O oc HB5W.out (Rb.of_own HO5.out))
    clear HRD
    obtain ⟨cz0, cz1, _, _⟩ := CF5.out
    go_wp2_with fail
    with_reducible refine HRD5.out.mono ?_
    rintro e w6 ⟨y, rfl, hg, hy1, _, b6⟩
    have HYC := Lib.hid (hy1 c rfl)
    unfold comV
    have HY6 := Lib.hid hg
    have HB6 := Lib.hid (HB5W.out.trans (b6.mono HB5W.out.size))
    have BX6 := Lib.hid (BX5.out.below b6 (Nat.le_refl _))
    have HX6 := Lib.hid (HG25.out.below b6 (Nat.le_refl _))
    have CF6 := Lib.hid (CF5.out.below b6 (Nat.le_refl _))
    have HO6 := Lib.hid (own_below HO5.out b6 (Nat.le_refl _))
    have HZ6 := Lib.hid b6.size
    clear hg hy1 b6 HRD5 BX5 HG25 HO5 CF5 cz0 cz1
    go_upto_region 8 with fail
    obtain ⟨w7, hw7⟩ : ∃ w7, w7 = w6.alloc (comO y) := ⟨_, rfl⟩
    have b7 : Below w6.heap.size w6 w7 := by rw [hw7]; exact alloc_below _ _
    have BY7 : Hid (Box w7 w6.heap.size y) := by show Box _ _ _; rw [hw7]; exact Box.new w6 y
    have HY7 := Lib.hid (HY6.out.below b7 (Nat.le_refl _))
    have HB7 := Lib.hid (HB6.out.trans (b7.mono HB6.out.size))
    have BX7 := Lib.hid (BX6.out.below b7 (Nat.le_refl _))
    have HX7 := Lib.hid (HX6.out.below b7 (Nat.le_refl _))
    have CF7 := Lib.hid (CF6.out.below b7 (Nat.le_refl _))
    have HO7 := Lib.hid (own_below HO6.out b7 (Nat.le_refl _))
    unfold comO at hw7
    rw [← hw7]
    obtain ⟨Y, hY⟩ : ∃ Y, Y = w6.heap.size := ⟨_, rfl⟩
    rw [← hY] at BY7
    have HYZ : Hid (w5.heap.size ≤ Y) := by show _ ≤ _; rw [hY]; exact HZ6.out
    rw [← hY]
    clear hw7 b7 HY6 HB6 BX6 HX6 CF6 HO6 hY HZ6
    obtain ⟨cz0, cz1, _, _⟩ := CF7.out
    go_wp2_with fail
    clear cz0 cz1
    go_loopw [8, 41] (fun _ i wr => ∃ (n : Nat) (m : Bs), n ≤ fp.length ∧ i = .int .i64 (n : Int) ∧ m.length = fp.length ∧ Own w2.heap.size wr (.slice O fp.length oc) m ∧ Only (At O) w7 wr) (fun _ i _ => fp.length - (intOf i).toNat)
    case atStart => exact ⟨0, fp, Nat.zero_le _, rfl, rfl, HO7.out, Only.refl _ _⟩
    case round =>
      obtain ⟨n, m, hn, rfl, hml, hown, hon⟩ := hrel
      obtain ⟨wo, rfl⟩ : ∃ wo : World, wo = wr := ⟨_, rfl⟩
      have HM := Lib.hid hml
      have HO := Lib.hid hown
      have HON2 := Lib.hid hon
      obtain ⟨cz0, cz1, _, _⟩ := CF7.out
      have hlg : g5 < w7.heap.size := CF7.out.lt
      have nA : ¬ At O g5 := fun ⟨a, e, h⟩ => HNE.out a e h
      have pz1 : wo.cell? ⟨g5, 1, none⟩ = some (.slice O fp.length oc) := by rw [hon.cell (a := ⟨g5, 1, none⟩) hlg nA]; exact cz1
      clear cz0 cz1 hlg nA
      by_cases hlt : n < fp.length
      · have hform := own_form (by rw [hml]; exact hown : Own w2.heap.size wo (.slice O m.length oc) m)
        rcases hform with ⟨_, hnil⟩ | ⟨g, cap, hv, hBg, hgl, hcap⟩
        · rw [hnil] at hml; simp at hml; omega
        · simp only [Value.slice.injEq] at hv
          obtain ⟨rfl, _, rfl⟩ := hv
          have hnm : n < m.length := by omega
          obtain ⟨hc0, hf0⟩ := own_cell hml hown hnm
          obtain ⟨b, hb⟩ : ∃ b, b = m[n]'hnm := ⟨_, rfl⟩
          rw [← hb] at hc0
          have hx := b.toNat_lt
          have HS := Lib.hid (own_store hml hown n ((b.toNat + 1) % 256) (by omega))
          have e256 : ((b.toNat : Int) + 1) % 256 = (((b.toNat + 1) % 256 : Nat) : Int) := by omega
          have E256 := Lib.hid e256
          have i1 : (n : Int) < fp.length := by omega
          clear hml hown hon hb e256 hnm
          go_wp2_with fail
          go_roundw
          case rel => exact ⟨n + 1, m.set n (UInt8.ofNat ((b.toNat + 1) % 256)), by omega, by go_num, by rw [List.length_set]; exact HM.out, by rw [E256.out]; exact HS.out, HON2.out.put (ad := ⟨g, n, none⟩) ⟨_, rfl, rfl⟩ _⟩
          case measure => simp [intOf]; omega
      · obtain rfl : n = fp.length := by omega
        have hnn : ¬ (fp.length : Int) < fp.length := by omega
        have HZZ : Hid (X < w2.heap.size ∧ w0.heap.size ≤ X) := ⟨HZ2.out.2, HZ2.out.1⟩
        have HBo : Hid (Below w.heap.size w wo) := HB7.out.trans (hon.below (fun j ⟨a, e, h⟩ => by have h1 := (HOB.out a e).1; have h2 := HB2.out.size; omega) HB7.out.size)
        have BXo := Lib.hid (BX7.out.only hon (fun ⟨a, e, h⟩ => by have h1 := (HOB.out a e).1; have h2 := HZZ.out.1; omega))
        have BYo := Lib.hid (BY7.out.only hon (fun ⟨a, e, h⟩ => by have h1 := (HOB.out a e).2; have h2 := HYZ.out; omega))
        have HYo := Lib.hid (HY7.out.only hon (fun j hj _ ⟨a, e, h⟩ => by have h1 := (HOB.out a e).2; omega))
        have HXo : Hid (Rc wo x) := HX7.out.rc.only hon (fun a ha ⟨b, e, h⟩ => by have h1 := (HOB.out b e).1; have h2 := (HG2.out.bk a ha).2; omega) (fun a ha ⟨b, e, h⟩ => by have h1 := (HOB.out b e).1; have h2 := (HG2.out.bv a ha).2; omega) (fun a ha ⟨b, e, h⟩ => by have h1 := (HOB.out b e).1; have h2 := (HG2.out.bt a ha).2; omega)
        have HQ : Hid (∀ W, Below wo.heap.size wo W → Calls Tryd.prog 14 #[comV y, comV x] W (boolOf true W)) := fun W h => by
          have q := Qr.requal_any y x W (HYo.out.rc.below h (Nat.le_refl _)) (HXo.out.below h (Nat.le_refl _)) HYo.out.bnd HX7.out.bnd
          rw [HYC.out, HXC.out, eqC_self] at q; exact q
        unfold comV at HQ
        clear hml hown hon pz1
        obtain ⟨c0, c1, c2, c3, c4, c5, c6, c7, c8, c9, _⟩ := BXo.out
        obtain ⟨d0, d1, d2, d3, d4, d5, d6, d7, d8, d9, _⟩ := BYo.out
        go_wp2_with fail
        refine (HQ.out _ (Below.refl _ _)).mono ?_
        rintro e w8 ⟨rfl, b8⟩
        have HB8 := Lib.hid (HBo.out.trans (b8.mono HBo.out.size))
        clear b8 c0 c1 c2 c3 c4 c5 c6 c7 c8 c9 d0 d1 d2 d3 d4 d5 d6 d7 d8 d9
        go_wp2_with fail
        refine (HK.out _ HB8.out).mono ?_
        rintro e w9 ⟨rfl, b9⟩
        have HB9 := Lib.hid (HB8.out.trans (b9.mono HB8.out.size))
        clear b9
        go_wp2_with fail
        go_ret
        exact ⟨rfl, HB9.out⟩
end Go.Proofs.YtefadkdngcbpiaaDoor.Qzg
