/- Proves the law InternNil at every argument. No condition. -/
import Derived.Test.YtmhbfplpodikiaaAk
import Derived.Deep.CutBlock
namespace Go.Proofs.Ytmhbfplpodikiaa.Au
open Go.RowKit Ap Mi Nw Aa Ab Ac Ag Ah Aj Ak

/-- A nil table or a zero one. -/
def zeroT : Array Value := #[.int .i64 0, .int .u64 0, .slice none 0 0, .slice none 0 0, .slice none 0 0]
def Dead (w : World) (p : Option Addr) : Prop := p = none ∨ ∃ g, p = some ⟨g, 0, none⟩ ∧ Blk w g zeroT 57
section
variable {w : World} {p : Option Addr}
theorem Dead.below {w' : World} (h : Dead w p) (hb : Below w.heap.size w w') : Dead w' p := by
  rcases h with h | ⟨g, h1, h2⟩
  · exact Or.inl h
  · exact Or.inr ⟨g, h1, h2.below hb h2.lt⟩
set_option maxRecDepth 100000 in
set_option maxHeartbeats 400000 in
theorem usable_dead (h : Dead w p) : Calls Try.prog 35 #[.pointer p] w fun q w' => q = .returned (.bool false) ∧ w' = w := by
  rcases h with rfl | ⟨g, rfl, h2⟩
  · go_enter Try.func35, Try.ntmps35
    go_wp2_with fail
    go_ret
    exact ⟨rfl, rfl⟩
  · have c0 : w.cell? ⟨g, 0, none⟩ = some (.int .i64 0) := h2.cell 0
    go_enter Try.func35, Try.ntmps35
    go_wp2_with fail
    go_ret
    exact ⟨rfl, rfl⟩
set_option maxRecDepth 100000 in
set_option maxHeartbeats 400000 in
theorem find_dead (k : ByteArray) (h : Dead w p) : Calls Try.prog 26 #[.pointer p, .string k] w fun q w' => q = .returned (.tuple #[.int .i64 0, .int .i64 1]) ∧ w' = w := by
  have HU := Lib.hid (usable_dead h)
  go_enter Try.func26, Try.ntmps26
  go_wp2_with fail
  refine HU.out.mono ?_
  rintro e w1 ⟨rfl, hw⟩
  rw [hw]
  clear hw
  go_wp2_with fail
  go_ret2
  exact ⟨rfl, rfl⟩
set_option maxRecDepth 100000 in
set_option maxHeartbeats 400000 in
theorem refs_dead (n : Int) (h : Dead w p) : Calls Try.prog 39 #[.pointer p, .int .i64 n] w fun q w' => q = .returned (.tuple #[.int .i64 0, .int .i64 1]) ∧ w' = w := by
  have HU := Lib.hid (usable_dead h)
  go_enter Try.func39, Try.ntmps39
  go_wp2_with fail
  refine HU.out.mono ?_
  rintro e w1 ⟨rfl, hw⟩
  rw [hw]
  clear hw
  go_wp2_with fail
  go_ret2
  exact ⟨rfl, rfl⟩
set_option maxRecDepth 100000 in
set_option maxHeartbeats 400000 in
theorem name_dead (n : Int) (h : Dead w p) : Calls Try.prog 41 #[.pointer p, .int .i64 n] w fun q w' => q = .returned (.tuple #[.string ⟨#[]⟩, .int .i64 1]) ∧ w' = w := by
  have HU := Lib.hid (refs_dead n h)
  go_enter Try.func41, Try.ntmps41
  go_wp2_with fail
  refine HU.out.mono ?_
  rintro e w1 ⟨rfl, hw⟩
  rw [hw]
  clear hw
  go_wp2_with fail
  go_ret2
  exact ⟨rfl, rfl⟩
set_option maxRecDepth 100000 in
set_option maxHeartbeats 400000 in
theorem rel_dead (n : Int) (h : Dead w p) : Calls Try.prog 19 #[.pointer p, .int .i64 n] w fun q w' => q = .returned (.tuple #[.bool false, .int .i64 1]) ∧ w' = w := by
  have HU := Lib.hid (refs_dead n h)
  go_enter Try.func19, Try.ntmps19
  go_wp2_with fail
  refine HU.out.mono ?_
  rintro e w1 ⟨rfl, hw⟩
  rw [hw]
  clear hw
  go_wp2_with fail
  go_ret2
  exact ⟨rfl, rfl⟩
set_option maxRecDepth 100000 in
set_option maxHeartbeats 400000 in
theorem add_dead (k : ByteArray) (h : Dead w p) : Calls Try.prog 18 #[.pointer p, .string k] w fun q w' => q = .returned (.tuple #[.int .i64 0, .int .i64 1]) ∧ w' = w := by
  have HU := Lib.hid (find_dead k h)
  go_enter Try.func18, Try.ntmps18
  go_wp2_with fail
  refine HU.out.mono ?_
  rintro e w1 ⟨rfl, hw⟩
  rw [hw]
  clear hw
  go_wp2_with fail
  go_ret2
  exact ⟨rfl, rfl⟩
set_option maxRecDepth 100000 in
set_option maxHeartbeats 400000 in
theorem names_dead (h : Dead w p) : Calls Try.prog 25 #[.pointer p] w fun q w' => q = .returned (.slice none 0 0) ∧ w' = w := by
  have HU := Lib.hid (usable_dead h)
  go_enter Try.func25, Try.ntmps25
  go_wp2_with fail
  refine HU.out.mono ?_
  rintro e w1 ⟨rfl, hw⟩
  rw [hw]
  clear hw
  go_wp2_with fail
  go_ret
  exact ⟨rfl, rfl⟩
set_option maxRecDepth 100000 in
set_option maxHeartbeats 400000 in
theorem len_dead (h : Dead w p) : Calls Try.prog 27 #[.pointer p] w fun q w' => q = .returned (.tuple #[.int .i64 0, .int .i64 0]) ∧ w' = w := by
  have HU := Lib.hid (usable_dead h)
  go_enter Try.func27, Try.ntmps27
  go_wp2_with fail
  refine HU.out.mono ?_
  rintro e w1 ⟨rfl, hw⟩
  rw [hw]
  clear hw
  go_wp2_with fail
  go_ret2
  exact ⟨rfl, rfl⟩
set_option maxRecDepth 100000 in
set_option maxHeartbeats 400000 in
theorem copy_dead (h : Dead w p) : Calls Try.prog 17 #[.pointer p] w fun q w' => q = .returned (.pointer none) ∧ w' = w := by
  have HU := Lib.hid (usable_dead h)
  go_enter Try.func17, Try.ntmps17
  go_wp2_with fail
  refine HU.out.mono ?_
  rintro e w1 ⟨rfl, hw⟩
  rw [hw]
  clear hw
  go_wp2_with fail
  go_ret
  exact ⟨rfl, rfl⟩
set_option maxRecDepth 100000 in
set_option maxHeartbeats 400000 in
theorem adds_dead (k : ByteArray) (h : Dead w p) : Calls Try.prog 14 #[.pointer p, .string k, .int .i64 0, .int .i64 1] w fun q w' => q = .returned (.bool true) ∧ w' = w := by
  have HU := Lib.hid (add_dead k h)
  go_enter Try.func14, Try.ntmps14
  go_wp2_with fail
  refine HU.out.mono ?_
  rintro e w1 ⟨rfl, hw⟩
  rw [hw]
  clear hw
  go_wp2_with fail
  go_ret
  exact ⟨rfl, rfl⟩
set_option maxRecDepth 100000 in
set_option maxHeartbeats 400000 in
theorem frees_dead (n : Int) (h : Dead w p) : Calls Try.prog 16 #[.pointer p, .int .i64 n, .bool false, .int .i64 1] w fun q w' => q = .returned (.bool true) ∧ w' = w := by
  have HU := Lib.hid (rel_dead n h)
  go_enter Try.func16, Try.ntmps16
  go_wp2_with fail
  refine HU.out.mono ?_
  rintro e w1 ⟨rfl, hw⟩
  rw [hw]
  clear hw
  go_wp2_with fail
  go_ret
  exact ⟨rfl, rfl⟩
set_option maxRecDepth 100000 in
set_option maxHeartbeats 400000 in
theorem finds_dead (k : ByteArray) (h : Dead w p) : Calls Try.prog 22 #[.pointer p, .string k, .int .i64 0, .int .i64 1] w fun q w' => q = .returned (.bool true) ∧ w' = w := by
  have HU := Lib.hid (find_dead k h)
  go_enter Try.func22, Try.ntmps22
  go_wp2_with fail
  refine HU.out.mono ?_
  rintro e w1 ⟨rfl, hw⟩
  rw [hw]
  clear hw
  go_wp2_with fail
  go_ret
  exact ⟨rfl, rfl⟩
set_option maxRecDepth 100000 in
set_option maxHeartbeats 400000 in
theorem namesl_dead (n : Int) (h : Dead w p) : Calls Try.prog 23 #[.pointer p, .int .i64 n, .string ⟨#[]⟩, .int .i64 1] w fun q w' => q = .returned (.bool true) ∧ w' = w := by
  have HU := Lib.hid (name_dead n h)
  go_enter Try.func23, Try.ntmps23
  go_wp2_with fail
  refine HU.out.mono ?_
  rintro e w1 ⟨rfl, hw⟩
  rw [hw]
  clear hw
  go_wp2_with fail
  go_ret
  exact ⟨rfl, rfl⟩
set_option maxRecDepth 100000 in
set_option maxHeartbeats 400000 in
theorem refsl_dead (n : Int) (h : Dead w p) : Calls Try.prog 24 #[.pointer p, .int .i64 n, .int .i64 0, .int .i64 1] w fun q w' => q = .returned (.bool true) ∧ w' = w := by
  have HU := Lib.hid (refs_dead n h)
  go_enter Try.func24, Try.ntmps24
  go_wp2_with fail
  refine HU.out.mono ?_
  rintro e w1 ⟨rfl, hw⟩
  rw [hw]
  clear hw
  go_wp2_with fail
  go_ret
  exact ⟨rfl, rfl⟩
set_option maxRecDepth 100000 in
set_option maxHeartbeats 400000 in
theorem lensl_dead (h : Dead w p) : Calls Try.prog 21 #[.pointer p, .int .i64 0, .int .i64 0] w fun q w' => q = .returned (.bool true) ∧ w' = w := by
  have HU := Lib.hid (len_dead h)
  go_enter Try.func21, Try.ntmps21
  go_wp2_with fail
  refine HU.out.mono ?_
  rintro e w1 ⟨rfl, hw⟩
  rw [hw]
  clear hw
  go_wp2_with fail
  go_ret
  exact ⟨rfl, rfl⟩
end
set_option maxRecDepth 100000 in
set_option maxHeartbeats 4000000 in
theorem nil_walk (k : ByteArray) (n : Int) (W : World) (hks : k.size ≤ maxLen) : Calls Try.prog 7 #[.string k, .int .i64 n] W (boolTo true W) := by
  unfold boolTo
  unfold maxLen at hks
  by_cases h100 : 100 < k.size
  · have i1 : (100 : Int) < (k.size : Int) := by omega
    go_enter Try.func7, Try.ntmps7
    go_wp2_with fail
    refine (known_any _).mono ?_
    rintro q w63 ⟨rfl, hb⟩
    have HBz := Lib.hid hb
    clear hb
    go_wp2_with fail
    go_ret
    exact ⟨rfl, HBz.out⟩
  · have i1 : ¬ (100 : Int) < (k.size : Int) := by omega
    obtain ⟨N, hN⟩ : ∃ N, N = W.heap.size := ⟨_, rfl⟩
    rw [← hN]
    obtain ⟨w0, hw0⟩ : ∃ w0, w0 = (W.alloc (.cells zeroT 57)).alloc (.cells #[.pointer none, .pointer (some ⟨N, 0, none⟩)] 23) := ⟨_, rfl⟩
    have P1 : Hid (Blk w0 N zeroT 57) := by
      show Blk _ _ _ _
      rw [hw0, hN]; exact (Blk.new W _ _).below (bnew _ _) (by simp)
    have P2 : Hid (Blk w0 (N + 1) #[.pointer none, .pointer (some ⟨N, 0, none⟩)] 23) := by
      show Blk _ _ _ _
      have := Blk.new (W.alloc (.cells zeroT 57)) #[.pointer none, .pointer (some ⟨N, 0, none⟩)] 23
      rw [hw0, hN]; rw [hN] at this; simpa using this
    have HB : Hid (Below N W w0) := by show Below _ _ _; rw [hw0, hN]; exact (bnew W _).alloc (by simp) _
    have hz0 : N + 1 < w0.heap.size := P2.out.lt
    unfold zeroT at hw0
    go_enter Try.func7, Try.ntmps7
    go_wp2_with fail
    rw [← hN]
    rw [← hw0]
    clear hw0 hN
    go_loopw [15] (fun i wr => ∃ K : Nat, K ≤ 2 ∧ i = .int .i64 (K : Int) ∧ wr = w0) (fun i _ => 2 - (intOf i).toNat)
    case atStart => exact ⟨0, by omega, rfl, rfl⟩
    case round =>
      obtain ⟨K, hK, rfl, hwr⟩ := hrel
      rw [hwr]
      clear hwr
      by_cases hlt : K < 2
      · have i3 : (K : Int) < 2 := by omega
        obtain ⟨p, hv, hid⟩ : ∃ p, w0.cell? ⟨N + 1, K, none⟩ = some (.pointer p) ∧ Dead w0 p := by
          have h2 := P2.out
          have h1 := P1.out
          have : K = 0 ∨ K = 1 := by omega
          rcases this with rfl | rfl
          · exact ⟨_, h2.cell 0, Or.inl rfl⟩
          · exact ⟨_, h2.cell 1, Or.inr ⟨N, rfl, h1⟩⟩
        have HD := Lib.hid hid
        clear hid
        go_wp2_with fail
        refine (adds_dead k HD.out).mono ?_
        rintro q w1 ⟨rfl, hw⟩
        rw [hw]
        clear hw w1
        go_wp2_with fail
        refine (frees_dead n HD.out).mono ?_
        rintro q w2 ⟨rfl, hw⟩
        rw [hw]
        clear hw w2
        go_wp2_with fail
        refine (finds_dead k HD.out).mono ?_
        rintro q w3 ⟨rfl, hw⟩
        rw [hw]
        clear hw w3
        go_wp2_with fail
        refine (namesl_dead n HD.out).mono ?_
        rintro q w4 ⟨rfl, hw⟩
        rw [hw]
        clear hw w4
        go_wp2_with fail
        refine (refsl_dead n HD.out).mono ?_
        rintro q w5 ⟨rfl, hw⟩
        rw [hw]
        clear hw w5
        go_wp2_with fail
        refine (names_dead HD.out).mono ?_
        rintro q w6 ⟨rfl, hw⟩
        rw [hw]
        clear hw w6
        go_wp2_with fail
        refine (lensl_dead HD.out).mono ?_
        rintro q w7 ⟨rfl, hw⟩
        rw [hw]
        clear hw w7
        go_wp2_with fail
        refine (copy_dead HD.out).mono ?_
        rintro q w8 ⟨rfl, hw⟩
        rw [hw]
        clear hw w8
        go_wp2_with fail
        go_roundw
        case rel => exact ⟨K + 1, by omega, by go_num, by trivial⟩
        case measure => simp [intOf]; omega
      · obtain rfl : K = 2 := by omega
        have hnn : ¬ ((2 : Nat) : Int) < 2 := by omega
        go_wp2_with fail
        refine (known_any _).mono ?_
        rintro q w63 ⟨rfl, hb⟩
        have HBz := Lib.hid hb
        clear hb
        go_wp2_with fail
        go_ret
        exact ⟨rfl, HB.out.trans (HBz.out.mono (by omega))⟩
end Go.Proofs.Ytmhbfplpodikiaa.Au
