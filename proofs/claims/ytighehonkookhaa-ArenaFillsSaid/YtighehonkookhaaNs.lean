/- Proves that ArenaLast returns true at every argument. No condition. -/
import Derived.Test.YtighehonkookhaaNq
namespace Go.Proofs.Ytighehonkookhaa.Ns
open Go.RowKit Ap Mi Nm Nw Na Nb Rg Nc Nd Nx Nf Ng Nh Nj Nk Nl Np Nq

theorem new_at (n : Int) (m : Nat) (w : World) (hn : (m : Int) = n) (h1 : 1 ≤ m) (h2 : m ≤ 1048576) : Calls Try.prog 9 #[.int .i64 n] w fun e w' => ∃ g, e = .returned (.tuple #[.pointer (some ⟨g, 0, none⟩), .int .i64 0]) ∧ Are (fun j => w.heap.size ≤ j) w' g m 1 ⟨[], [], []⟩ ∧ Below w.heap.size w w' := by
  subst hn; exact new_yes m w h1 h2
theorem first_tk (M : Nat) (h : 1 ≤ M) : tkS M ⟨[], [], []⟩ = ⟨[1], [true], []⟩ ∧ tkN M ⟨[], [], []⟩ = 0 ∧ tkG M ⟨[], [], []⟩ = 1 ∧ tkE M ⟨[], [], []⟩ = 0 :=
  tk_new (M := M) (s := ⟨[], [], []⟩) rfl (fun e => by simp at e; omega)
set_option maxRecDepth 100000 in
set_option maxHeartbeats 4000000 in
theorem last_walk (l : Int) (W : World) : Calls Try.prog 5 #[.int .i64 l] W (boolTo true W) := by
  have HK := known_hid
  unfold boolTo at HK ⊢
  by_cases ho : l < -2 ∨ 2 < l
  · rcases ho with ho | ho
    · go_enter Try.func5, Try.ntmps5
      go_wp2_with fail
      refine (HK.out _).mono ?_
      rintro e w1 ⟨rfl, hb⟩
      go_wp2_with fail
      go_ret
      exact ⟨rfl, hb⟩
    · have ho' : ¬ l < -2 := by omega
      go_enter Try.func5, Try.ntmps5
      go_wp2_with fail
      refine (HK.out _).mono ?_
      rintro e w1 ⟨rfl, hb⟩
      go_wp2_with fail
      go_ret
      exact ⟨rfl, hb⟩
  · have hv : l = -2 ∨ l = -1 ∨ l = 0 ∨ l = 1 ∨ l = 2 := by omega
    clear ho
    rcases hv with rfl | rfl | rfl | rfl | rfl
    · go_enter Try.func5, Try.ntmps5
      go_wp2_with fail
      refine (new_no _ _ (by omega)).mono ?_
      rintro e w1 ⟨rfl, rfl⟩
      go_wp2_with fail
      refine (HK.out _).mono ?_
      rintro e w1 ⟨rfl, hb⟩
      have HB := Lib.hid hb
      clear hb
      go_wp2_with fail
      go_ret
      exact ⟨rfl, HB.out⟩
    · go_enter Try.func5, Try.ntmps5
      go_wp2_with fail
      refine (new_no _ _ (by omega)).mono ?_
      rintro e w1 ⟨rfl, rfl⟩
      go_wp2_with fail
      refine (HK.out _).mono ?_
      rintro e w1 ⟨rfl, hb⟩
      have HB := Lib.hid hb
      clear hb
      go_wp2_with fail
      go_ret
      exact ⟨rfl, HB.out⟩
    · have HNW := Lib.hid (new_at 1048576 1048576 W rfl (by omega) (by omega))
      go_enter Try.func5, Try.ntmps5
      go_wp2_with fail
      refine HNW.out.mono ?_
      rintro e w1 ⟨g, rfl, ha, hb⟩
      have HT := Lib.hid (takes_true ha (by omega) 0 1 0 (first_tk 1048576 (by omega)).2.1 (first_tk 1048576 (by omega)).2.2.1 (first_tk 1048576 (by omega)).2.2.2)
      have HB1 := Lib.hid hb
      have hz1 := hb.size
      unfold tookPost at HT
      rw [(first_tk 1048576 (by omega)).1] at HT
      clear ha hb HNW
      go_wp2_with fail
      refine HT.out.mono ?_
      rintro e w2 ⟨rfl, ha, ho⟩
      have hno : ist ⟨[1], [true], []⟩ 1048575 = false := ist_far (by simp)
      obtain ⟨q0, q1, q2⟩ := ans_no hno
      have HAT := Lib.hid (at_true ha 1048575 0 0 9 q0 q1 q2)
      have HB2 : Hid (Below W.heap.size W w2) := HB1.out.trans (ho.below (fun _ h => h) hz1)
      have hz2 := ho.size
      unfold boolTo at HAT
      clear ha ho hno q0 q1 q2 HT
      go_wp2_with fail
      refine HAT.out.mono ?_
      rintro e w3 ⟨rfl, hb⟩
      have HB3 := Lib.hid (HB2.out.trans (hb.mono (by omega)))
      have hz3 := hb.size
      clear hb HAT
      go_wp2_with fail
      refine (HK.out _).mono ?_
      rintro e w4 ⟨rfl, hb⟩
      have HB4 := Lib.hid (HB3.out.trans (hb.mono (by omega)))
      clear hb
      go_wp2_with fail
      go_ret
      exact ⟨rfl, HB4.out⟩
    · have HNW := Lib.hid (new_at 1048575 1048575 W rfl (by omega) (by omega))
      go_enter Try.func5, Try.ntmps5
      go_wp2_with fail
      refine HNW.out.mono ?_
      rintro e w1 ⟨g, rfl, ha, hb⟩
      have HT := Lib.hid (takes_true ha (by omega) 0 1 0 (first_tk 1048575 (by omega)).2.1 (first_tk 1048575 (by omega)).2.2.1 (first_tk 1048575 (by omega)).2.2.2)
      have HB1 := Lib.hid hb
      have hz1 := hb.size
      unfold tookPost at HT
      rw [(first_tk 1048575 (by omega)).1] at HT
      clear ha hb HNW
      go_wp2_with fail
      refine HT.out.mono ?_
      rintro e w2 ⟨rfl, ha, ho⟩
      have hno : ist ⟨[1], [true], []⟩ 1048575 = false := ist_far (by simp)
      obtain ⟨q0, q1, q2⟩ := ans_no hno
      have HAT := Lib.hid (at_true ha 1048575 0 0 9 q0 q1 q2)
      have HB2 : Hid (Below W.heap.size W w2) := HB1.out.trans (ho.below (fun _ h => h) hz1)
      have hz2 := ho.size
      unfold boolTo at HAT
      clear ha ho hno q0 q1 q2 HT
      go_wp2_with fail
      refine HAT.out.mono ?_
      rintro e w3 ⟨rfl, hb⟩
      have HB3 := Lib.hid (HB2.out.trans (hb.mono (by omega)))
      have hz3 := hb.size
      clear hb HAT
      go_wp2_with fail
      refine (HK.out _).mono ?_
      rintro e w4 ⟨rfl, hb⟩
      have HB4 := Lib.hid (HB3.out.trans (hb.mono (by omega)))
      clear hb
      go_wp2_with fail
      go_ret
      exact ⟨rfl, HB4.out⟩
    · have HNW := Lib.hid (new_at 1048574 1048574 W rfl (by omega) (by omega))
      go_enter Try.func5, Try.ntmps5
      go_wp2_with fail
      refine HNW.out.mono ?_
      rintro e w1 ⟨g, rfl, ha, hb⟩
      have HT := Lib.hid (takes_true ha (by omega) 0 1 0 (first_tk 1048574 (by omega)).2.1 (first_tk 1048574 (by omega)).2.2.1 (first_tk 1048574 (by omega)).2.2.2)
      have HB1 := Lib.hid hb
      have hz1 := hb.size
      unfold tookPost at HT
      rw [(first_tk 1048574 (by omega)).1] at HT
      clear ha hb HNW
      go_wp2_with fail
      refine HT.out.mono ?_
      rintro e w2 ⟨rfl, ha, ho⟩
      have hno : ist ⟨[1], [true], []⟩ 1048575 = false := ist_far (by simp)
      obtain ⟨q0, q1, q2⟩ := ans_no hno
      have HAT := Lib.hid (at_true ha 1048575 0 0 9 q0 q1 q2)
      have HB2 : Hid (Below W.heap.size W w2) := HB1.out.trans (ho.below (fun _ h => h) hz1)
      have hz2 := ho.size
      unfold boolTo at HAT
      clear ha ho hno q0 q1 q2 HT
      go_wp2_with fail
      refine HAT.out.mono ?_
      rintro e w3 ⟨rfl, hb⟩
      have HB3 := Lib.hid (HB2.out.trans (hb.mono (by omega)))
      have hz3 := hb.size
      clear hb HAT
      go_wp2_with fail
      refine (HK.out _).mono ?_
      rintro e w4 ⟨rfl, hb⟩
      have HB4 := Lib.hid (HB3.out.trans (hb.mono (by omega)))
      clear hb
      go_wp2_with fail
      go_ret
      exact ⟨rfl, HB4.out⟩
end Go.Proofs.Ytighehonkookhaa.Ns
