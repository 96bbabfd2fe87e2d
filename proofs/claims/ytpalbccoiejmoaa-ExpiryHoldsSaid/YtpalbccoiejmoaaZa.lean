/- Proves what the small functions of package expiry return: the order of two slots, and whether a deadline has come. No condition. -/
import Derived.Test.YtpalbccoiejmoaaZk
import Derived.Test.YtpalbccoiejmoaaZm
namespace Go.Proofs.Ytpalbccoiejmoaa.Za
open Go.RowKit Ap Mi Nw Ya Yb Yc Zk Zm

def cmpI (a b : Int) : Int := if a < b then -1 else if b < a then 1 else 0
theorem nanT_any (a : Int) (w : World) : Calls Try.prog 62 #[.int .u64 a] w fun e w' => e = .returned (.bool false) ∧ w' = w := by
  have h : (a != a) = false := by simp
  go_enter Try.func62, Try.ntmps62
  go_wp2_with fail
  go_ret
  exact ⟨rfl, rfl⟩
theorem nanI_any (a : Int) (w : World) : Calls Try.prog 63 #[.int .i64 a] w fun e w' => e = .returned (.bool false) ∧ w' = w := by
  have h : (a != a) = false := by simp
  go_enter Try.func63, Try.ntmps63
  go_wp2_with fail
  go_ret
  exact ⟨rfl, rfl⟩
theorem cmpT_any (a b : Int) (w : World) : Calls Try.prog 49 #[.int .u64 a, .int .u64 b] w fun e w' => e = .returned (.int .i64 (cmpI a b)) ∧ w' = w := by
  by_cases h1 : a < b
  · have HC : Hid (cmpI a b = -1) := by show _ = _; unfold cmpI; rw [if_pos h1]
    rw [HC.out]
    go_enter Try.func49, Try.ntmps49
    go_wp2_with (go_at_call 62; refine (nanT_any _ _).mono ?_; rintro e w' ⟨rfl, rfl⟩)
    go_ret
    exact ⟨rfl, rfl⟩
  · by_cases h2 : b < a
    · have HC : Hid (cmpI a b = 1) := by show _ = _; unfold cmpI; rw [if_neg h1, if_pos h2]
      rw [HC.out]
      go_enter Try.func49, Try.ntmps49
      go_wp2_with (go_at_call 62; refine (nanT_any _ _).mono ?_; rintro e w' ⟨rfl, rfl⟩)
      go_ret
      exact ⟨rfl, rfl⟩
    · have HC : Hid (cmpI a b = 0) := by show _ = _; unfold cmpI; rw [if_neg h1, if_neg h2]
      rw [HC.out]
      go_enter Try.func49, Try.ntmps49
      go_wp2_with (go_at_call 62; refine (nanT_any _ _).mono ?_; rintro e w' ⟨rfl, rfl⟩)
      go_ret
      exact ⟨rfl, rfl⟩
theorem cmpI_any (a b : Int) (w : World) : Calls Try.prog 50 #[.int .i64 a, .int .i64 b] w fun e w' => e = .returned (.int .i64 (cmpI a b)) ∧ w' = w := by
  by_cases h1 : a < b
  · have HC : Hid (cmpI a b = -1) := by show _ = _; unfold cmpI; rw [if_pos h1]
    rw [HC.out]
    go_enter Try.func50, Try.ntmps50
    go_wp2_with (go_at_call 63; refine (nanI_any _ _).mono ?_; rintro e w' ⟨rfl, rfl⟩)
    go_ret
    exact ⟨rfl, rfl⟩
  · by_cases h2 : b < a
    · have HC : Hid (cmpI a b = 1) := by show _ = _; unfold cmpI; rw [if_neg h1, if_pos h2]
      rw [HC.out]
      go_enter Try.func50, Try.ntmps50
      go_wp2_with (go_at_call 63; refine (nanI_any _ _).mono ?_; rintro e w' ⟨rfl, rfl⟩)
      go_ret
      exact ⟨rfl, rfl⟩
    · have HC : Hid (cmpI a b = 0) := by show _ = _; unfold cmpI; rw [if_neg h1, if_neg h2]
      rw [HC.out]
      go_enter Try.func50, Try.ntmps50
      go_wp2_with (go_at_call 63; refine (nanI_any _ _).mono ?_; rintro e w' ⟨rfl, rfl⟩)
      go_ret
      exact ⟨rfl, rfl⟩
/-- What compare says of two slots. -/
def cmpV (x y : Td) : Int := if x.2 < y.2 then -1 else if y.2 < x.2 then 1 else cmpI x.1 y.1
theorem cmpV_lt (x y : Td) : cmpV x y < 0 ↔ bf x y := by
  unfold cmpV cmpI bf
  repeat' split
  all_goals first | (constructor <;> intro h <;> omega) | omega
def tO (x : Td) : Obj := .cells #[.int .i64 x.1, .int .u64 x.2] 41
def tA (x : Td) : Value := .agg #[.int .i64 x.1, .int .u64 x.2]
theorem compare_any (x y : Td) (w : World) : Calls Try.prog 37 #[tA x, tA y] w fun e w' => e = .returned (.int .i64 (cmpV x y)) ∧ w' = (w.alloc (tO x)).alloc (tO y) := by
  obtain ⟨n, a⟩ := x
  obtain ⟨m, b⟩ := y
  unfold tA tO
  simp only
  have CT := fun W => cmpT_any a b W
  have CI := fun W => cmpI_any n m W
  by_cases h1 : a < b
  · have e1 : cmpI a b = -1 := by unfold cmpI; rw [if_pos h1]
    have e2 : cmpV (n, a) (m, b) = -1 := by unfold cmpV; rw [if_pos h1]
    rw [e1] at CT
    rw [e2]
    clear h1 e1 e2
    go_enter Try.func37, Try.ntmps37
    go_wp2_with (go_at_call 49; refine (CT _).mono ?_; rintro e w' ⟨rfl, rfl⟩)
    go_ret
    exact ⟨rfl, rfl⟩
  · by_cases h2 : b < a
    · have e1 : cmpI a b = 1 := by unfold cmpI; rw [if_neg h1, if_pos h2]
      have e2 : cmpV (n, a) (m, b) = 1 := by unfold cmpV; rw [if_neg h1, if_pos h2]
      rw [e1] at CT
      rw [e2]
      clear h1 h2 e1 e2
      go_enter Try.func37, Try.ntmps37
      go_wp2_with (go_at_call 49; refine (CT _).mono ?_; rintro e w' ⟨rfl, rfl⟩)
      go_ret
      exact ⟨rfl, rfl⟩
    · have e1 : cmpI a b = 0 := by unfold cmpI; rw [if_neg h1, if_neg h2]
      have e2 : cmpV (n, a) (m, b) = cmpI n m := by unfold cmpV; rw [if_neg h1, if_neg h2]
      rw [e1] at CT
      rw [e2]
      clear h1 h2 e1 e2
      obtain ⟨r, hr⟩ : ∃ r, r = cmpI n m := ⟨_, rfl⟩
      rw [← hr] at CI ⊢
      clear hr
      go_enter Try.func37, Try.ntmps37
      go_wp2_with (first | (go_at_call 49; refine (CT _).mono ?_; rintro e w' ⟨rfl, rfl⟩) | (go_at_call 50; refine (CI _).mono ?_; rintro e w' ⟨rfl, rfl⟩))
      go_ret
      exact ⟨rfl, rfl⟩
theorem cdue_any (d n : Int) (w : World) : Calls Try.prog 43 #[.int .u64 d, .int .u64 n] w fun e w' => e = .returned (.bool (decide (isDue d n))) ∧ w' = w := by
  by_cases h : d = 18446744073709551615
  · have HD : Hid (¬ isDue d n) := fun k => k.1 h
    have hb : (d != 18446744073709551615) = false := by simpa using h
    clear h
    go_enter Try.func43, Try.ntmps43
    go_wp2_with fail
    go_ret
    exact ⟨retB (by simp [HD.out]), rfl⟩
  · have hb : (d != 18446744073709551615) = true := by simpa using h
    by_cases k : d ≤ n
    · have HD : Hid (isDue d n) := ⟨h, k⟩
      have k' : n ≥ d := k
      clear h
      go_enter Try.func43, Try.ntmps43
      go_wp2_with fail
      go_ret
      exact ⟨retB (by simp [HD.out]), rfl⟩
    · have HD : Hid (¬ isDue d n) := fun j => k j.2
      have k' : ¬ n ≥ d := k
      clear h
      go_enter Try.func43, Try.ntmps43
      go_wp2_with fail
      go_ret
      exact ⟨retB (by simp [HD.out]), rfl⟩
end Go.Proofs.Ytpalbccoiejmoaa.Za
