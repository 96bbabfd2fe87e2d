/- Proves what Common and Has return, and their like of the specification. Conditions: lengths below the form's own bound. -/
import Derived.Test.YtjieiakgikhofaaDoorKl
import Derived.Test.YtjieiakgikhofaaDoorShelf
namespace Go.Proofs.YtjieiakgikhofaaDoor.Kc
open Go.RowKit Km Kt Kv Kl

def comS (a b : ByteArray) : Nat := com a.data.toList b.data.toList
theorem comS_stop (a b : ByteArray) (k : Nat) (h1 : k ≤ a.size) (h2 : k ≤ b.size) (he : ∀ j, j < k → a.data.toList[j]? = b.data.toList[j]?) (hn : ∀ (h1 : k < a.size) (h2 : k < b.size), a[k].toNat ≠ b[k].toNat) : comS a b = k := by
  unfold comS
  refine com_stop _ _ k (by rw [len_eq]; exact h1) (by rw [len_eq]; exact h2) he fun g1 g2 e => ?_
  rw [len_eq] at g1 g2
  exact hn g1 g2 (congrArg UInt8.toNat e)
theorem same_next (a b : ByteArray) (k : Nat) (h1 : k < a.size) (h2 : k < b.size) (he : ∀ j, j < k → a.data.toList[j]? = b.data.toList[j]?) (hc : a[k].toNat = b[k].toNat) : ∀ j, j < k + 1 → a.data.toList[j]? = b.data.toList[j]? := by
  intro j hj
  rcases Nat.lt_or_ge j k with h | h
  · exact he j h
  · rw [show j = k from by omega, List.getElem?_eq_getElem (by rw [len_eq]; exact h1), List.getElem?_eq_getElem (by rw [len_eq]; exact h2)]
    exact congrArg some (UInt8.toNat_inj.1 hc)
theorem drewN_self (w : World) : ∃ n, w = w.drewN n := ⟨0, rfl⟩
theorem drewN_more {w w1 : World} (h : ∃ n, w1 = w.drewN n) (m : Nat) : ∃ n, w1.drewN m = w.drewN n := by
  obtain ⟨n, rfl⟩ := h
  exact ⟨n + m, by rw [World.drewN_drewN]⟩

def comPost (w : World) (n : Nat) : Ending → World → Prop := fun e w' => e = .returned (.int .i64 n) ∧ ∃ m, w' = w.drewN m
set_option maxRecDepth 100000 in
set_option maxHeartbeats 400000 in
theorem common_any (a b : ByteArray) (w : World) (ha : a.size ≤ maxLen) :
    Calls Tryd.prog 19 #[.string a, .string b] w (comPost w (comS a b)) := by
  unfold maxLen at ha
  go_enter Tryd.func19, Tryd.ntmps19
  go_wp2
  go_loopw [6, 13] (fun _ i wr => ∃ k : Nat, k ≤ a.size ∧ k ≤ b.size ∧ i = .int .i64 k ∧ (∃ n, wr = w.drewN n) ∧ ∀ j, j < k → a.data.toList[j]? = b.data.toList[j]?) (fun _ i _ => a.size - (intOf i).toNat)
  case atStart => exact ⟨0, Nat.zero_le _, Nat.zero_le _, rfl, drewN_self w, fun j h => by omega⟩
  case round =>
    obtain ⟨k, hk1, hk2, rfl, ⟨nw, rfl⟩, hsame⟩ := hrel
    have HS := Lib.hid hsame; clear hsame
    by_cases hlt : k < a.size ∧ k < b.size
    · obtain ⟨h1, h2⟩ := hlt
      have g0 : (k : Int) < min (a.size : Int) (b.size : Int) := by omega
      have i1 : (k : Int) < a.size := by omega
      have i2 : (k : Int) < b.size := by omega
      by_cases hc : a[k].toNat = b[k].toNat
      · have hb' : (((a[k].toNat : Nat) : Int) != ((b[k].toNat : Nat) : Int)) = false := by rw [hc]; simp
        have HC := Lib.hid hc; clear hc
        go_wp2
        go_quiet (fail)
        go_wp2
        go_roundw
        case rel => exact ⟨k + 1, by omega, by omega, by go_num, (by first | exact ⟨_, rfl⟩ | exact drewN_more ⟨_, rfl⟩ _), same_next a b k h1 h2 HS.out HC.out⟩
        case measure => simp [intOf]; omega
      · have hb' : (((a[k].toNat : Nat) : Int) != ((b[k].toNat : Nat) : Int)) = true := by rw [bne_iff_ne]; omega
        have HC := Lib.hid hc; clear hc
        go_wp2
        go_quiet (fail)
        go_wp2
        go_ret
        exact ⟨ret_i (by rw [comS_stop a b k hk1 hk2 HS.out (fun _ _ => HC.out)]), (by first | exact ⟨_, rfl⟩ | exact drewN_more ⟨_, rfl⟩ _)⟩
    · have g0 : ¬ ((k : Int) < min (a.size : Int) (b.size : Int)) := by omega
      have hm : min (a.size : Int) (b.size : Int) = k := by omega
      have HM := Lib.hid hm; clear hm
      have HL := Lib.hid hlt; clear hlt
      go_wp2
      go_ret
      exact ⟨ret_i (by rw [HM.out, comS_stop a b k hk1 hk2 HS.out (fun h1 h2 => absurd ⟨h1, h2⟩ HL.out)]), (by first | exact ⟨_, rfl⟩ | exact drewN_more ⟨_, rfl⟩ _)⟩

set_option maxRecDepth 100000 in
set_option maxHeartbeats 400000 in
theorem rcommon_any (a b : ByteArray) (w : World) (ha : a.size ≤ maxLen) :
    Calls Tryd.prog 20 #[.string a, .string b] w (comPost w (comS a b)) := by
  unfold maxLen at ha
  go_enter Tryd.func20, Tryd.ntmps20
  go_wp2
  go_loopw [5] (fun i wr => ∃ k : Nat, k ≤ a.size ∧ k ≤ b.size ∧ i = .int .i64 k ∧ (∃ n, wr = w.drewN n) ∧ ∀ j, j < k → a.data.toList[j]? = b.data.toList[j]?) (fun i _ => a.size - (intOf i).toNat)
  case atStart => exact ⟨0, Nat.zero_le _, Nat.zero_le _, rfl, drewN_self w, fun j h => by omega⟩
  case round =>
    obtain ⟨k, hk1, hk2, rfl, ⟨nw, rfl⟩, hsame⟩ := hrel
    have HS := Lib.hid hsame; clear hsame
    by_cases h1 : k < a.size
    · have i1 : (k : Int) < a.size := by omega
      by_cases h2 : k < b.size
      · have i2 : (k : Int) < b.size := by omega
        by_cases hc : a[k].toNat = b[k].toNat
        · have hb' : (((a[k].toNat : Nat) : Int) == ((b[k].toNat : Nat) : Int)) = true := by rw [hc]; simp
          have HC := Lib.hid hc; clear hc
          go_wp2
          go_quiet (fail)
          go_wp2
          go_roundw
          case rel => exact ⟨k + 1, by omega, by omega, by go_num, (by first | exact ⟨_, rfl⟩ | exact drewN_more ⟨_, rfl⟩ _), same_next a b k h1 h2 HS.out HC.out⟩
          case measure => simp [intOf]; omega
        · have hb' : (((a[k].toNat : Nat) : Int) == ((b[k].toNat : Nat) : Int)) = false := by rw [beq_eq_false_iff_ne]; omega
          have HC := Lib.hid hc; clear hc
          go_wp2
          go_quiet (fail)
          go_wp2
          go_ret
          exact ⟨ret_i (by rw [comS_stop a b k hk1 hk2 HS.out (fun _ _ => HC.out)]), (by first | exact ⟨_, rfl⟩ | exact drewN_more ⟨_, rfl⟩ _)⟩
      · have hd : decide ((k : Int) < b.size) = false := by simp; omega
        have hd' : decide (k < b.size) = false := by simp; omega
        have hd1 : decide (k < a.size) = true := by simpa using h1
        have HL := Lib.hid h2; clear h2
        go_wp2
        go_quiet (fail)
        go_wp2
        go_ret
        exact ⟨ret_i (by rw [comS_stop a b k hk1 hk2 HS.out (fun _ h2 => absurd h2 HL.out)]), (by first | exact ⟨_, rfl⟩ | exact drewN_more ⟨_, rfl⟩ _)⟩
    · have hd : decide ((k : Int) < a.size) = false := by simp; omega
      have hd' : decide (k < a.size) = false := by simp; omega
      have HL := Lib.hid h1; clear h1
      go_wp2
      go_quiet (fail)
      go_wp2
      go_ret
      exact ⟨ret_i (by rw [comS_stop a b k hk1 hk2 HS.out (fun h1 _ => absurd h1 HL.out)]), (by first | exact ⟨_, rfl⟩ | exact drewN_more ⟨_, rfl⟩ _)⟩

def hasS (s p : ByteArray) : Bool := Lib.hasPrefix s.data.toList p.data.toList
set_option maxHeartbeats 400000 in
theorem has_any (s p : ByteArray) (w : World) :
    Calls Tryd.prog 17 #[.string s, .string p] w fun e w' => e = .returned (.bool (hasS s p)) ∧ w = w' := by
  go_enter Tryd.func17, Tryd.ntmps17
  go_wp2_with fail
  refine (Tryd.strings_HasPrefix s p _).mono ?_
  rintro e w' ⟨rfl, rfl⟩
  go_wp2_with fail
  go_ret
  exact ⟨rfl, rfl⟩
set_option maxHeartbeats 400000 in
theorem rhas_any (s p : ByteArray) (w : World) :
    Calls Tryd.prog 18 #[.string s, .string p] w fun e w' => e = .returned (.bool (hasS s p)) ∧ w = w' := by
  by_cases h : p.size ≤ s.size
  · have HV := Lib.hid (Lib.hasPrefix_raw s p)
    have hle := Lib.hid h
    go_enter Tryd.func18, Tryd.ntmps18
    go_wp2
    go_ret
    exact ⟨ret_b (by show ((s.extract 0 p.size).toList == p.toList) = hasS s p; unfold hasS; rw [← HV.out]; simp [hle.out]), rfl⟩
  · have h' : s.size < p.size := by omega
    have HV := Lib.hid (Lib.hasPrefix_raw s p)
    have hle := Lib.hid h
    clear h
    go_enter Tryd.func18, Tryd.ntmps18
    go_wp2
    go_ret
    exact ⟨ret_b (by show false = hasS s p; unfold hasS; rw [← HV.out]; simp [hle.out]), rfl⟩
end Go.Proofs.YtjieiakgikhofaaDoor.Kc
