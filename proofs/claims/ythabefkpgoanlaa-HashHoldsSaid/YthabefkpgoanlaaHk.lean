/- Proves that the law's check of the document's own examples for package hash returns true. No condition. -/
import Derived.Test.YthabefkpgoanlaaHw
import Derived.WalkKit
import Derived.WalkSpells
import Derived.WalkLawsBesides
import Derived.Lib.Hide
import Derived.Lib.SlBytesConst
import Derived.Below
namespace Go.Proofs.Ythabefkpgoanlaa.Hk
open Go.RowKit Hm Hw

theorem mix0 : mixI 0 = 0 := by decide +kernel
theorem mix1 : mixI 1 = 1082269761 := by decide +kernel
theorem sum_a : mixI (sumL 0 [97]) = 106061912290 := by decide +kernel
theorem u0 : U64 0 := by unfold U64; omega
theorem u1 : U64 1 := by unfold U64; omega
theorem u5 : U64 5 := by unfold U64; omega
theorem ua : U64 106061912290 := by unfold U64; omega
theorem z0 : (⟨#[]⟩ : ByteArray).size ≤ maxLen := Nat.zero_le _
theorem z1 : (⟨#[97]⟩ : ByteArray).size ≤ maxLen := by unfold maxLen; show 1 ≤ _; omega
theorem mix_at (a b : Int) (w : World) (h : mixI a = b) : Calls Try.prog 8 #[.int .u64 a] w fun e w' => e = .returned (.int .u64 b) ∧ w = w' := by
  rw [← h]; exact mix_any a w
theorem sum_at (a b : Int) (s : ByteArray) (w : World) (ha : U64 a) (hs : s.size ≤ maxLen) (h : mixI (sumL a s.data.toList) = b) :
    Calls Try.prog 11 #[.int .u64 a, .string s] w fun e w' => e = .returned (.int .u64 b) ∧ w = w' := by
  rw [← h]; exact sum_any a s w ha hs
theorem bytes_at (b o cap : Nat) (w : World) (hc : w.cell? ⟨b, o, none⟩ = some (.int .u8 97)) :
    Calls Try.prog 13 #[.int .u64 0, .slice (some ⟨b, o, none⟩) 1 cap] w fun e w' => e = .returned (.int .u64 106061912290) ∧ w = w' := by
  rw [← sum_a]
  exact bytes_any 0 b o [97] cap w (by simp) fun k hk => by
    obtain rfl : k = 0 := by simpa using hk
    exact hc
set_option maxHeartbeats 400000 in
theorem known_any (w : World) :
    Calls Try.prog 10 #[] w fun e w' => e = .returned (.bool true) ∧ Below w.heap.size w w' := by
  have hcv := Lib.run_convert_bytes_const (P := Try.prog) w 28 5 #[.int .u8 97] 1 1 Try.underlying28 Try.underlying5
  have hb := bytes_at w.heap.size 0 1 (w.alloc (.cells #[.int .u8 97] 5 (1, 2))) (by rw [World.cell?_alloc_mark]; rfl)
  have HB := Lib.hid hb; clear hb
  go_enter Try.func10, Try.ntmps10
  go_wp2_with fail
  refine (mix_at 0 0 _ mix0).mono ?_
  rintro e w' ⟨rfl, rfl⟩
  go_wp2_with fail
  refine (mix_at 1 _ _ mix1).mono ?_
  rintro e w' ⟨rfl, rfl⟩
  go_wp2_with fail
  refine (sum_at 0 0 ⟨#[]⟩ _ u0 z0 mix0).mono ?_
  rintro e w' ⟨rfl, rfl⟩
  go_wp2_with fail
  refine (sum_at 1 1082269761 ⟨#[]⟩ _ u1 z0 mix1).mono ?_
  rintro e w' ⟨rfl, rfl⟩
  go_wp2_with fail
  refine (sum_at 0 106061912290 ⟨#[97]⟩ _ u0 z1 sum_a).mono ?_
  rintro e w' ⟨rfl, rfl⟩
  go_wp2_with fail
  refine HB.out.mono ?_
  rintro e w' ⟨rfl, rfl⟩
  clear hcv HB
  go_wp2_with fail
  refine (index_at 106061912290 16 2 0 _ ua (by omega) (by omega) (by decide +kernel) (by decide +kernel)).mono ?_
  rintro e w' ⟨rfl, rfl⟩
  go_wp2_with fail
  refine (index_at 5 1 0 0 _ u5 (by omega) (by omega) (by decide +kernel) (by decide +kernel)).mono ?_
  rintro e w' ⟨rfl, rfl⟩
  go_wp2_with fail
  refine (index_at 5 3 0 2 _ u5 (by omega) (by omega) (by decide +kernel) (by decide +kernel)).mono ?_
  rintro e w' ⟨rfl, rfl⟩
  go_wp2_with fail
  refine (index_at 5 0 0 2 _ u5 (by omega) (by omega) (by decide +kernel) (by decide +kernel)).mono ?_
  rintro e w' ⟨rfl, rfl⟩
  go_wp2_with fail
  refine (power_at 1 1 0 _ (by omega) (by omega) (by decide +kernel) (by decide +kernel)).mono ?_
  rintro e w' ⟨rfl, rfl⟩
  go_wp2_with fail
  refine (power_at 5 8 0 _ (by omega) (by omega) (by decide +kernel) (by decide +kernel)).mono ?_
  rintro e w' ⟨rfl, rfl⟩
  go_wp2_with fail
  refine (power_at 8 8 0 _ (by omega) (by omega) (by decide +kernel) (by decide +kernel)).mono ?_
  rintro e w' ⟨rfl, rfl⟩
  go_wp2_with fail
  refine (power_at 0 0 3 _ (by omega) (by omega) (by decide +kernel) (by decide +kernel)).mono ?_
  rintro e w' ⟨rfl, rfl⟩
  go_wp2_with fail
  refine (power_at 16777217 0 3 _ (by omega) (by omega) (by decide +kernel) (by decide +kernel)).mono ?_
  rintro e w' ⟨rfl, rfl⟩
  go_wp2_with fail
  go_ret
  exact ⟨rfl, (Below.refl _ _).alloc (Nat.le_refl _) _⟩
end Go.Proofs.Ythabefkpgoanlaa.Hk
