/- Proves what the specification's Get returns: the number at the front of a list of bytes, or the errors. Conditions: few bytes. -/
import Derived.Test.YthlfahblnpijaaaVg
namespace Go.Proofs.Ythlfahblnpijaaa.Vgr
open Go.RowKit Vm Ap Vw Va Vg

theorem mul_step {acc k d F : Nat} (hF : F = 128 ^ k) (hs : acc + d * 128 ^ k < big) : IntKind.u64.wrap ((acc : Int) + IntKind.u64.wrap ((F : Int) * (d : Int))) = ((acc + d * 128 ^ k : Nat) : Int) := by
  subst hF
  have e : ((128 ^ k : Nat) : Int) * (d : Int) = ((d * 128 ^ k : Nat) : Int) := by rw [← Int.natCast_mul, Nat.mul_comm]
  unfold big at hs
  rw [e, IntKind.wrap_u64, IntKind.wrap_u64]; omega
theorem mul_walk {acc F c : Nat} {x : Int} (h : IntKind.u64.wrap ((acc : Int) + IntKind.u64.wrap ((F : Int) * ((c % 128 : Nat) : Int))) = x) : IntKind.u64.wrap ((acc : Int) + IntKind.u64.wrap ((F : Int) * ((c : Int) % 128))) = x := h
theorem f_step {F k : Nat} (hF : F = 128 ^ k) (hk : k ≤ 8) : F ≤ 72057594037927936 ∧ 128 * F = 128 ^ (k + 1) := by
  have h8 : (128 : Nat) ^ k ≤ 128 ^ 8 := Nat.pow_le_pow_right (by omega) (by omega)
  have e8 : (128 : Nat) ^ 8 = 72057594037927936 := by decide
  rw [Nat.pow_succ]
  omega

set_option maxRecDepth 100000 in
set_option maxHeartbeats 1000000 in
theorem rget_any (A : Option Addr) (l : Bs) (c : Nat) (w : World) (hA : Rb w A l) (hl : l.length ≤ 1000000000) :
    Calls Try.prog 48 #[.slice A l.length c] w (getPost w l) := by
  go_enter Try.func48, Try.ntmps48
  go_wp2_with fail
  go_loop [5, 6, 7] (fun n f i => ∃ k acc F : Nat, i = .int .i64 (k : Int) ∧ n = .int .u64 (acc : Int) ∧ f = .int .u64 (F : Int) ∧ F = 128 ^ k ∧ At l k acc) (fun _ _ i => l.length - (intOf i).toNat)
  case atStart => exact ⟨0, 0, 1, rfl, rfl, rfl, rfl, At.start l⟩
  case round =>
    obtain ⟨k, acc, F, rfl, rfl, rfl, hF, hat⟩ := hrel
    have hk := hat.le
    have h9 := hat.nine
    have HT := Lib.hid hat; clear hat
    have HFF := Lib.hid hF; clear hF
    by_cases hlt : k < l.length
    · obtain ⟨b, o, rfl, hb, hc⟩ := hA.at_ hlt
      have i1 : (k : Int) < l.length := by omega
      have c1 := l[k].toNat_lt
      by_cases hbad : (0 < k ∧ l[k].toNat = 0) ∨ (k = 9 ∧ 1 < l[k].toNat)
      · have HF := Lib.hid (HT.out.bad hlt hbad)
        by_cases hk9 : k = 9
        · have k0 : 0 < k := by omega
          have d0 : decide ((0 : Int) < (k : Int)) = true := by simp; omega
          have e9 : ((k : Int) == 9) = true := by rw [hk9]; rfl
          by_cases h1 : 1 < l[k].toNat
          · have d1 : decide ((1 : Int) < (l[k].toNat : Int)) = true := by simp; omega
            clear hk9 hbad
            go_wp2_with fail
            go_ret3
            exact ⟨by rw [HF.out]; rfl, rfl⟩
          · have d1 : decide ((1 : Int) < (l[k].toNat : Int)) = false := by simp; omega
            have e0 : (((l[k].toNat : Nat) : Int) == 0) = true := by rw [beq_iff_eq]; omega
            clear hk9 hbad
            go_wp2_with fail
            go_ret3
            exact ⟨by rw [HF.out]; rfl, rfl⟩
        · have k0 : 0 < k := by omega
          have d0 : decide ((0 : Int) < (k : Int)) = true := by simp; omega
          have e9 : ((k : Int) == 9) = false := by rw [beq_eq_false_iff_ne]; omega
          have e0 : (((l[k].toNat : Nat) : Int) == 0) = true := by rw [beq_iff_eq]; omega
          clear hk9 hbad
          go_wp2_with fail
          go_ret3
          exact ⟨by rw [HF.out]; rfl, rfl⟩
      · have HB := Lib.hid hbad
        have hw : k = 0 ∨ (0 < k ∧ k ≠ 9 ∧ l[k].toNat ≠ 0) ∨ (k = 9 ∧ l[k].toNat = 1) := by omega
        have HS := Lib.hid (HT.out.small (l[k].toNat % 128) (by omega) (by omega))
        have HO := Lib.hid (mul_step HFF.out HS.out)
        clear hbad
        rcases hw with h1 | ⟨h1, h2, h3⟩ | ⟨h1, h2⟩
        · have k0 : ¬ 0 < k := by omega
          have d0 : decide ((0 : Int) < (k : Int)) = false := by simp; omega
          have e9 : ((k : Int) == 9) = false := by rw [beq_eq_false_iff_ne]; omega
          obtain ⟨f1, f2⟩ := f_step HFF.out (show k ≤ 8 by omega)
          have F2 := Lib.hid f2
          clear h1 f2
          by_cases hs : l[k].toNat < 128
          · have s1 : (l[k].toNat : Int) < 128 := by omega
            have HF := Lib.hid (HT.out.done hlt HB.out hs)
            go_wp2_with fail
            go_ret3
            exact ⟨by rw [HF.out, ← mul_walk HO.out]; rfl, rfl⟩
          · have s1 : (128 : Int) ≤ (l[k].toNat : Int) := by omega
            have HX := Lib.hid (HT.out.next hlt HB.out hs)
            clear hs
            go_wp2_with fail
            go_round
            case rel => exact ⟨k + 1, _, 128 * F, by go_num, by rw [mul_walk HO.out], by go_num, F2.out, HX.out⟩
            case measure => simp [intOf]; omega
        · have k0 : 0 < k := by omega
          have d0 : decide ((0 : Int) < (k : Int)) = true := by simp; omega
          have e0 : (((l[k].toNat : Nat) : Int) == 0) = false := by rw [beq_eq_false_iff_ne]; omega
          have e9 : ((k : Int) == 9) = false := by rw [beq_eq_false_iff_ne]; omega
          obtain ⟨f1, f2⟩ := f_step HFF.out (show k ≤ 8 by omega)
          have F2 := Lib.hid f2
          clear f2
          by_cases hs : l[k].toNat < 128
          · have s1 : (l[k].toNat : Int) < 128 := by omega
            have HF := Lib.hid (HT.out.done hlt HB.out hs)
            go_wp2_with fail
            go_ret3
            exact ⟨by rw [HF.out, ← mul_walk HO.out]; rfl, rfl⟩
          · have s1 : (128 : Int) ≤ (l[k].toNat : Int) := by omega
            have HX := Lib.hid (HT.out.next hlt HB.out hs)
            clear hs
            go_wp2_with fail
            go_round
            case rel => exact ⟨k + 1, _, 128 * F, by go_num, by rw [mul_walk HO.out], by go_num, F2.out, HX.out⟩
            case measure => simp [intOf]; omega
        · have k0 : 0 < k := by omega
          have d0 : decide ((0 : Int) < (k : Int)) = true := by simp; omega
          have e0 : (((l[k].toNat : Nat) : Int) == 0) = false := by rw [h2]; rfl
          have e9 : ((k : Int) == 9) = true := by rw [h1]; rfl
          have d1 : decide ((1 : Int) < (l[k].toNat : Int)) = false := by rw [h2]; rfl
          have hs : l[k].toNat < 128 := by omega
          have s1 : (l[k].toNat : Int) < 128 := by omega
          have HF := Lib.hid (HT.out.done hlt HB.out hs)
          clear h1 h2
          go_wp2_with fail
          go_ret3
          exact ⟨by rw [HF.out, ← mul_walk HO.out]; rfl, rfl⟩
    · obtain rfl : k = l.length := by omega
      have HF := Lib.hid HT.out.fin
      have hnn : ¬ (l.length : Int) < l.length := by omega
      go_wp2_with fail
      go_ret3
      exact ⟨by rw [HF.out]; rfl, rfl⟩
end Go.Proofs.Ythlfahblnpijaaa.Vgr
