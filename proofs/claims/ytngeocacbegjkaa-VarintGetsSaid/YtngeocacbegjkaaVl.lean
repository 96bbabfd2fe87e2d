/- Proves that VarintGets and VarintNil return true at every argument. Conditions: as the rows give them. -/
import Derived.Test.YtngeocacbegjkaaVk
import Derived.OpenShut
namespace Go.Proofs.Ytngeocacbegjkaa.Vl
open Go.RowKit Vm Ap Vw Va Vab Vr Vrb Vg Vgr Vc Vp Vpr Vn Vs Vh Vk

theorem known_hid : Hid (∀ W, Calls Try.prog 9 #[] W (boolBelow W)) := known_any
set_option maxRecDepth 100000 in
set_option maxHeartbeats 1000000 in
theorem gets_walk (A : Option Addr) (l : Bs) (c : Nat) (W : World) (ha : Arg W A l c) :
    Calls Try.prog 4 #[.slice A l.length c] W (boolBelow W) := by
  have HK := known_hid
  have hA := ha.rd
  have hlc := ha.le
  have hc := ha.max
  unfold maxLen at hc
  clear ha
  by_cases h : 300 < l.length
  · have h1 : (300 : Int) < (l.length : Int) := by omega
    clear hA h
    go_enter Try.func4, Try.ntmps4
    go_wp2_with fail
    refine (HK.out _).mono ?_
    rintro e w1 ⟨rfl, hb⟩
    go_wp2_with fail
    go_ret
    exact ⟨rfl, hb⟩
  · have h1 : (l.length : Int) ≤ 300 := by omega
    have HG := Lib.hid (rget_any A l c W hA (by omega))
    have HT := Lib.hid (get_true A l l.length c _ _ _ W rfl hA (by omega) rfl rfl rfl)
    have HR : Hid (getR l = .tuple #[.int .u64 (getN l : Int), .int .i64 (getS l : Int), .int .i64 (getE l : Int)]) := rfl
    clear hA h
    generalize getN l = n at *
    generalize getS l = s at *
    generalize getE l = e0 at *
    go_enter Try.func4, Try.ntmps4
    go_wp2_with fail
    refine HG.out.mono ?_
    rintro e w1 ⟨rfl, rfl⟩
    rw [HR.out]
    go_wp2_with fail
    refine HT.out.mono ?_
    rintro e w1 ⟨rfl, rfl⟩
    go_wp2_with fail
    refine (HK.out _).mono ?_
    rintro e w1 ⟨rfl, hb⟩
    go_wp2_with fail
    go_ret
    exact ⟨rfl, hb⟩

theorem new_nil (W : World) : Calls Try.prog 20 #[.slice none 0 0] W (newPost W []) := new_any none [] 0 W (Rb.nil _ _) (by simp)
set_option maxRecDepth 100000 in
set_option maxHeartbeats 4000000 in
theorem nil_walk (most : Int) (hm : (Lit.int .i64 most).wf = true) (W : World) :
    Calls Try.prog 7 #[.int .i64 most] W (boolBelow W) := by
  obtain ⟨m0, m1⟩ := bounds_i64 hm
  have HK := known_hid
  clear hm
  have hs1 : (W.alloc (.cells #[.slice none 0 0, .bool false] 53)).heap.size = W.heap.size + 1 := by simp
  have c0 : ((W.alloc (.cells #[.slice none 0 0, .bool false] 53)).alloc (.cells #[.pointer none, .pointer (some ⟨W.heap.size, 0, none⟩)] 43)).cell? ⟨W.heap.size + 1, 0, none⟩ = some (.pointer none) := by
    rw [← hs1, cell_of_row _ _ 0 _ _ (0, 0) (heap_alloc_new _ _)]; rfl
  have c1 : ((W.alloc (.cells #[.slice none 0 0, .bool false] 53)).alloc (.cells #[.pointer none, .pointer (some ⟨W.heap.size, 0, none⟩)] 43)).cell? ⟨W.heap.size + 1, 1, none⟩ = some (.pointer (some ⟨W.heap.size, 0, none⟩)) := by
    rw [← hs1, cell_of_row _ _ 1 _ _ (0, 0) (heap_alloc_new _ _)]; rfl
  have i1 : Idle (W.alloc (.cells #[.slice none 0 0, .bool false] 53)) (some ⟨W.heap.size, 0, none⟩) :=
    Or.inr ⟨W.heap.size, rfl, by rw [cell_of_row _ _ 0 _ _ (0, 0) (heap_alloc_new _ _)]; rfl, by rw [cell_of_row _ _ 1 _ _ (0, 0) (heap_alloc_new _ _)]; rfl⟩
  have i2 := i1.below ((Below.refl _ _).alloc (Nat.le_refl _) (.cells #[.pointer none, .pointer (some ⟨W.heap.size, 0, none⟩)] 43))
  have b0 : Below W.heap.size W ((W.alloc (.cells #[.slice none 0 0, .bool false] 53)).alloc (.cells #[.pointer none, .pointer (some ⟨W.heap.size, 0, none⟩)] 43)) := ((Below.refl _ _).alloc (Nat.le_refl _) _).alloc (by simp) _
  have C0 := Lib.hid c0; have C1 := Lib.hid c1; have I2 := Lib.hid i2; have B0 := Lib.hid b0
  have l0 := World.block_lt_of_cell? _ _ c0
  clear hs1 c0 c1 i1 i2 b0
  go_enter Try.func7, Try.ntmps7
  go_wp2_with fail
  generalize (W.alloc (.cells #[.slice none 0 0, .bool false] 53)).alloc (.cells #[.pointer none, .pointer (some ⟨W.heap.size, 0, none⟩)] 43) = W0 at *
  go_loopw [12] (fun i wr => ∃ k : Nat, k ≤ 2 ∧ i = .int .i64 (k : Int) ∧ Below W0.heap.size W0 wr) (fun i _ => 2 - (intOf i).toNat)
  case atStart => exact ⟨0, by omega, rfl, Below.refl _ _⟩
  case round =>
    obtain ⟨k, hk, rfl, hb⟩ := hrel
    have HB := Lib.hid hb
    have hc0 : wr.cell? ⟨W.heap.size + 1, 0, none⟩ = some (.pointer none) := by rw [hb.cell (p := ⟨W.heap.size + 1, 0, none⟩) l0]; exact C0.out
    have hc1 : wr.cell? ⟨W.heap.size + 1, 1, none⟩ = some (.pointer (some ⟨W.heap.size, 0, none⟩)) := by rw [hb.cell (p := ⟨W.heap.size + 1, 1, none⟩) l0]; exact C1.out
    clear hb
    have hk3 : k = 0 ∨ k = 1 ∨ k = 2 := by omega
    rcases hk3 with rfl | rfl | rfl
    · have J0 : Hid (∀ w, Idle w none) := fun w => Or.inl rfl
      clear hc1
      go_wp2_with fail
      refine (number_idle _ none (J0.out _)).mono ?_
      rintro e w1 ⟨rfl, b⟩
      have HB1 := Lib.hid (step0 HB.out b); clear b
      go_wp2_with fail
      refine (one_idle _ none (J0.out _)).mono ?_
      rintro e w2 ⟨rfl, b⟩
      have HB2 := Lib.hid (step0 HB1.out b); clear b
      go_wp2_with fail
      refine (bytes_idle _ none most (J0.out _)).mono ?_
      rintro e w3 ⟨rfl, b⟩
      have HB3 := Lib.hid (step0 HB2.out b); clear b
      go_wp2_with fail
      refine (left_idle _ none (J0.out _)).mono ?_
      rintro e w' ⟨rfl, rfl⟩
      go_wp2_with fail
      go_roundw
      case rel => exact ⟨1, by omega, rfl, HB3.out⟩
      case measure => simp [intOf]
    · have J0 := Lib.hid (I2.out.below HB.out)
      clear hc0
      go_wp2_with fail
      refine (number_idle _ _ J0.out).mono ?_
      rintro e w1 ⟨rfl, b⟩
      have HB1 := Lib.hid (step0 HB.out b)
      have J1 := Lib.hid (J0.out.below b); clear b
      go_wp2_with fail
      refine (one_idle _ _ J1.out).mono ?_
      rintro e w2 ⟨rfl, b⟩
      have HB2 := Lib.hid (step0 HB1.out b)
      have J2 := Lib.hid (J1.out.below b); clear b
      go_wp2_with fail
      refine (bytes_idle _ _ most J2.out).mono ?_
      rintro e w3 ⟨rfl, b⟩
      have HB3 := Lib.hid (step0 HB2.out b)
      have J3 := Lib.hid (J2.out.below b); clear b
      go_wp2_with fail
      refine (left_idle _ _ J3.out).mono ?_
      rintro e w' ⟨rfl, rfl⟩
      go_wp2_with fail
      go_roundw
      case rel => exact ⟨2, by omega, rfl, HB3.out⟩
      case measure => simp [intOf]
    · clear hc0 hc1
      have HB1 := Lib.hid (step0 B0.out HB.out)
      go_wp2_with fail
      refine (new_nil _).mono ?_
      rintro e w1 ⟨g, rfl, hr, b⟩
      have R0 := Lib.hid hr
      have HG := Lib.hid (Nat.le_trans HB1.out.size (Rdr.ge hr))
      have HB2 := Lib.hid (step0 HB1.out b)
      clear hr b
      go_wp2_with fail
      refine (number_true _ _ g [] [] 0 4 R0.out (by simp) (by decide +kernel) (by decide +kernel) (by decide +kernel)).mono ?_
      rintro e w2 ⟨rfl, hr, b⟩
      have R1 := Lib.hid hr
      have HB3 := Lib.hid (stepRd HB2.out HG.out b)
      clear hr b
      go_wp2_with fail
      refine (one_true _ _ g [] [] 0 4 R1.out (by simp) (by decide +kernel) (by decide +kernel) (by decide +kernel)).mono ?_
      rintro e w3 ⟨rfl, hr, b⟩
      have R2 := Lib.hid hr
      have HB4 := Lib.hid (stepRd HB3.out HG.out b)
      clear hr b
      by_cases hm : most < 0
      · have HP := Lib.hid (part_arg (l := []) hm)
        go_wp2_with fail
        refine (bytes_true _ _ g [] [] [] most 2 R2.out (by simp) m0 m1 (by rw [HP.out]) (by rw [HP.out]; rfl) (by rw [HP.out]; rfl)).mono ?_
        rintro e w4 ⟨rfl, hr, b⟩
        have HB5 := Lib.hid (stepRd HB4.out HG.out b)
        clear hr b
        go_wp2_with fail
        refine (HK.out _).mono ?_
        rintro e w5 ⟨rfl, b⟩
        have HB6 := Lib.hid (step0 HB5.out b); clear b
        go_wp2_with fail
        go_ret
        exact ⟨rfl, HB6.out⟩
      · have HP := Lib.hid (part_err (l := []) hm (by decide +kernel))
        have hm2 : 0 ≤ most := by omega
        clear hm
        go_wp2_with fail
        refine (bytes_true _ _ g [] [] [] most 4 R2.out (by simp) m0 m1 (by rw [HP.out]) (by rw [HP.out]; rfl) (by rw [HP.out]; rfl)).mono ?_
        rintro e w4 ⟨rfl, hr, b⟩
        have HB5 := Lib.hid (stepRd HB4.out HG.out b)
        clear hr b
        go_wp2_with fail
        refine (HK.out _).mono ?_
        rintro e w5 ⟨rfl, b⟩
        have HB6 := Lib.hid (step0 HB5.out b); clear b
        go_wp2_with fail
        go_ret
        exact ⟨rfl, HB6.out⟩
end Go.Proofs.Ytngeocacbegjkaa.Vl
