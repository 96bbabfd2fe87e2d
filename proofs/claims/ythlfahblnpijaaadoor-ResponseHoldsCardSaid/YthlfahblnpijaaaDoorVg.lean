/- Proves what Get returns: the number at the front of a list of bytes, or the errors. Conditions: few bytes. -/
import Derived.Test.YthlfahblnpijaaaDoorBa
namespace Go.Proofs.YthlfahblnpijaaaDoor.Vg
open Go.RowKit Vm Ap Vw Va

theorem andNot_fin : ∀ n : Fin 256, bits .andNot .u8 (n.val : Int) 128 = ((n.val % 128 : Nat) : Int) := by decide +kernel
theorem andNot_128 (n : Nat) (h : n < 256) : bits .andNot .u8 (n : Int) 128 = ((n % 128 : Nat) : Int) := andNot_fin ⟨n, h⟩
def getR (l : Bs) : Value := .tuple #[.int .u64 (getN l : Int), .int .i64 (getS l : Int), .int .i64 (getE l : Int)]
def getPost (w : World) (l : Bs) : Ending → World → Prop := fun e w' => e = .returned (getR l) ∧ w = w'
theorem getR_of {l : Bs} {n s e : Nat} (h : getAt 0 0 l = (n, s, e)) : getR l = .tuple #[.int .u64 (n : Int), .int .i64 (s : Int), .int .i64 (e : Int)] := by
  unfold getR getN getS getE; rw [h]
/-- How far the loop has read. -/
structure At (l : Bs) (k acc : Nat) : Prop where
  le : k ≤ l.length
  nine : k ≤ 9
  lt : acc < 128 ^ k
  eq : getAt 0 0 l = getAt k acc (l.drop k)
theorem At.start (l : Bs) : At l 0 0 := ⟨Nat.zero_le _, by omega, by simp, rfl⟩
theorem At.cons {l : Bs} {k acc : Nat} (h : At l k acc) (hk : k < l.length) : getAt 0 0 l = getAt k acc (l[k] :: l.drop (k + 1)) := by
  rw [h.eq, List.drop_eq_getElem_cons hk]
theorem At.fin {l : Bs} {acc : Nat} (h : At l l.length acc) : getR l = .tuple #[.int .u64 0, .int .i64 0, .int .i64 4] := by
  rw [getR_of (h.eq.trans (by rw [List.drop_length]))]; rfl
theorem At.bad {l : Bs} {k acc : Nat} (h : At l k acc) (hk : k < l.length) (hb : (0 < k ∧ l[k].toNat = 0) ∨ (k = 9 ∧ 1 < l[k].toNat)) : getR l = .tuple #[.int .u64 0, .int .i64 0, .int .i64 6] := by
  rw [getR_of ((h.cons hk).trans (getAt_bad hb))]; rfl
theorem At.done {l : Bs} {k acc : Nat} (h : At l k acc) (hk : k < l.length) (hb : ¬ ((0 < k ∧ l[k].toNat = 0) ∨ (k = 9 ∧ 1 < l[k].toNat))) (hc : l[k].toNat < 128) :
    getR l = .tuple #[.int .u64 ((acc + (l[k].toNat % 128) * 128 ^ k : Nat) : Int), .int .i64 ((k : Int) + 1), .int .i64 0] := by
  rw [Nat.mod_eq_of_lt hc, getR_of ((h.cons hk).trans (getAt_end hb hc))]; rfl
theorem At.next {l : Bs} {k acc : Nat} (h : At l k acc) (hk : k < l.length) (hb : ¬ ((0 < k ∧ l[k].toNat = 0) ∨ (k = 9 ∧ 1 < l[k].toNat))) (hc : ¬ l[k].toNat < 128) : At l (k + 1) (acc + (l[k].toNat % 128) * 128 ^ k) := by
  have hmul : (l[k].toNat % 128) * 128 ^ k ≤ 127 * 128 ^ k := Nat.mul_le_mul_right _ (by omega)
  have hpow : (128 : Nat) ^ (k + 1) = 128 ^ k * 128 := Nat.pow_succ ..
  have := h.lt
  have := h.nine
  exact ⟨by omega, by omega, by rw [hpow]; omega, (h.cons hk).trans (getAt_more hb hc)⟩
theorem At.small {l : Bs} {k acc : Nat} (h : At l k acc) (c : Nat) (hc : c < 128) (h9 : k = 9 → c ≤ 1) : acc + c * 128 ^ k < big := by
  have := h.lt
  have := h.nine
  unfold big
  by_cases e : k = 9
  · subst e; rw [p9] at *; have := h9 rfl; omega
  · have h8 : (128 : Nat) ^ k ≤ 128 ^ 8 := Nat.pow_le_pow_right (by omega) (by omega)
    have e8 : (128 : Nat) ^ 8 = 72057594037927936 := by decide
    have : c * 128 ^ k ≤ 127 * 72057594037927936 := Nat.mul_le_mul (by omega) (by omega)
    omega

theorem or_step {acc k d : Nat} (h : acc < 128 ^ k) (hs : acc + d * 128 ^ k < big) : bits .or .u64 (acc : Int) (IntKind.u64.wrap ((d : Int) * 2 ^ (7 * k))) = ((acc + d * 128 ^ k : Nat) : Int) := by
  have e : ((d : Int) * 2 ^ (7 * k)) = ((d * 128 ^ k : Nat) : Int) := by rw [pow128]; push_cast; rfl
  unfold big at hs
  rw [e, IntKind.wrap_u64, show ((d * 128 ^ k : Nat) : Int) % 18446744073709551616 = ((d * 128 ^ k : Nat) : Int) from by omega, u64_or_nat _ _ (by omega) (by omega)]
  congr 1
  rw [pow128] at *
  rw [Nat.or_comm, Nat.mul_comm, ← Nat.two_pow_add_eq_or_of_lt h, Nat.add_comm]
theorem or_walk {acc k c : Nat} {x : Int} (h : bits .or .u64 (acc : Int) (IntKind.u64.wrap (((c % 128 : Nat) : Int) * 2 ^ (7 * k))) = x) : bits .or .u64 (acc : Int) (IntKind.u64.wrap ((c : Int) % 128 * 2 ^ (7 * k))) = x := h

set_option maxRecDepth 100000 in
set_option maxHeartbeats 1000000 in
theorem get_any (A : Option Addr) (l : Bs) (c : Nat) (w : World) (hA : Rb w A l) (hl : l.length ≤ 1000000000) :
    Calls Tryd.prog 58 #[.slice A l.length c] w (getPost w l) := by
  go_enter Tryd.func58, Tryd.ntmps58
  go_wp2_with fail
  go_loop [2, 9] (fun n i => ∃ k acc : Nat, i = .int .i64 (k : Int) ∧ n = .int .u64 (acc : Int) ∧ At l k acc) (fun _ i => l.length - (intOf i).toNat)
  case atStart => exact ⟨0, 0, rfl, rfl, At.start l⟩
  case round =>
    obtain ⟨k, acc, rfl, rfl, hat⟩ := hrel
    have hk := hat.le
    have h9 := hat.nine
    have HT := Lib.hid hat; clear hat
    by_cases hlt : k < l.length
    · obtain ⟨b, o, rfl, hb, hc⟩ := hA.at_ hlt
      have i1 : (k : Int) < l.length := by omega
      have c1 := l[k].toNat_lt
      have HN : Hid (bits .andNot .u8 (l[k].toNat : Int) 128 = ((l[k].toNat % 128 : Nat) : Int)) := andNot_128 _ c1
      by_cases hbad : (0 < k ∧ l[k].toNat = 0) ∨ (k = 9 ∧ 1 < l[k].toNat)
      · have HF := Lib.hid (HT.out.bad hlt hbad)
        rcases hbad with ⟨h1, h2⟩ | ⟨h1, h2⟩
        · have d0 : decide ((0 : Int) < (k : Int)) = true := by simp; omega
          have e0 : (((l[k].toNat : Nat) : Int) == 0) = true := by rw [h2]; rfl
          clear h2
          go_wp2_with fail
          go_ret3
          exact ⟨by rw [HF.out]; rfl, rfl⟩
        · have k0 : 0 < k := by omega
          have d0 : decide ((0 : Int) < (k : Int)) = true := by simp; omega
          have e0 : (((l[k].toNat : Nat) : Int) == 0) = false := by rw [beq_eq_false_iff_ne]; omega
          have e9 : ((k : Int) == 9) = true := by rw [h1]; rfl
          have d1 : decide ((1 : Int) < (l[k].toNat : Int)) = true := by simp; omega
          clear h1
          go_wp2_with fail
          go_ret3
          exact ⟨by rw [HF.out]; rfl, rfl⟩
      · have HB := Lib.hid hbad
        have HAN := HN.out
        have hw : k = 0 ∨ (0 < k ∧ k ≠ 9 ∧ l[k].toNat ≠ 0) ∨ (k = 9 ∧ l[k].toNat = 1) := by omega
        have HS := Lib.hid (HT.out.small (l[k].toNat % 128) (by omega) (by omega))
        have HO := Lib.hid (or_step HT.out.lt HS.out)
        clear hbad
        rcases hw with h1 | ⟨h1, h2, h3⟩ | ⟨h1, h2⟩
        · have k0 : ¬ 0 < k := by omega
          have d0 : decide ((0 : Int) < (k : Int)) = false := by simp; omega
          have e9 : ((k : Int) == 9) = false := by rw [beq_eq_false_iff_ne]; omega
          clear h1
          by_cases hs : l[k].toNat < 128
          · have s1 : (l[k].toNat : Int) < 128 := by omega
            have HF := Lib.hid (HT.out.done hlt HB.out hs)
            go_wp2_with fail
            go_ret3
            exact ⟨by rw [HF.out, ← or_walk HO.out]; rfl, rfl⟩
          · have s1 : (128 : Int) ≤ (l[k].toNat : Int) := by omega
            have HX := Lib.hid (HT.out.next hlt HB.out hs)
            clear hs
            go_wp2_with fail
            go_round
            case rel => exact ⟨k + 1, _, by go_num, by rw [or_walk HO.out], HX.out⟩
            case measure => simp [intOf]; omega
        · have k0 : 0 < k := by omega
          have d0 : decide ((0 : Int) < (k : Int)) = true := by simp; omega
          have e0 : (((l[k].toNat : Nat) : Int) == 0) = false := by rw [beq_eq_false_iff_ne]; omega
          have e9 : ((k : Int) == 9) = false := by rw [beq_eq_false_iff_ne]; omega
          by_cases hs : l[k].toNat < 128
          · have s1 : (l[k].toNat : Int) < 128 := by omega
            have HF := Lib.hid (HT.out.done hlt HB.out hs)
            go_wp2_with fail
            go_ret3
            exact ⟨by rw [HF.out, ← or_walk HO.out]; rfl, rfl⟩
          · have s1 : (128 : Int) ≤ (l[k].toNat : Int) := by omega
            have HX := Lib.hid (HT.out.next hlt HB.out hs)
            clear hs
            go_wp2_with fail
            go_round
            case rel => exact ⟨k + 1, _, by go_num, by rw [or_walk HO.out], HX.out⟩
            case measure => simp [intOf]; omega
        · have k0 : 0 < k := by omega
          have d0 : decide ((0 : Int) < (k : Int)) = true := by simp; omega
          have e0 : (((l[k].toNat : Nat) : Int) == 0) = false := by rw [h2]; rfl
          have e9 : ((k : Int) == 9) = true := by rw [h1]; rfl
          have d1 : decide ((1 : Int) < (l[k].toNat : Int)) = false := by rw [h2]; rfl
          have hs : l[k].toNat < 128 := by omega
          have s1 : (l[k].toNat : Int) < 128 := by omega
          have HF := Lib.hid (HT.out.done hlt HB.out hs)
          clear h1 h2
          go_wp2_with fail
          go_ret3
          exact ⟨by rw [HF.out, ← or_walk HO.out]; rfl, rfl⟩
    · obtain rfl : k = l.length := by omega
      have HF := Lib.hid HT.out.fin
      have hnn : ¬ (l.length : Int) < l.length := by omega
      go_wp2_with fail
      go_ret3
      exact ⟨by rw [HF.out]; rfl, rfl⟩

end Go.Proofs.YthlfahblnpijaaaDoor.Vg
