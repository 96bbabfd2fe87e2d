/- Proves what the functions of package key return that say which strings are keys, tags and prefixes, and their like of the specification; and allowed and allowedList of package request. Conditions: lengths below the form's own bound. -/
import Derived.Test.YthlfahblnpijaaaDoorQe
import Derived.BigQuiet
import Derived.Deep.QuietTactic
namespace Go.Proofs.YthlfahblnpijaaaDoor.Qv
open Go.RowKit Vm Ap Vw Va Gc Mi Mb Qm Qs Qe

theorem len_eq (s : ByteArray) : s.data.toList.length = s.size := by simp
theorem sz_of (l : Bs) : (⟨l.toArray⟩ : ByteArray).size = l.length := by rw [← len_eq]

set_option maxHeartbeats 400000 in
theorem valK_s (s : ByteArray) (w : World) (hs : s.size ≤ 140737488355328) :
    Calls Tryd.prog 42 #[.string s] w fun e w' => e = .returned (.bool (validK s.data.toList)) ∧ w = w' := by
  have HV : Hid (validK s.data.toList = (decide (1 ≤ s.size) && decide (s.size ≤ 250))) := by show _ = _; unfold validK; rw [len_eq]
  by_cases h0 : 1 ≤ s.size
  · have d0 : decide (1 ≤ s.size) = true := by simpa using h0
    go_enter Tryd.func42, Tryd.ntmps42
    go_wp2
    go_ret
    exact ⟨ret_b (by rw [HV.out, Bool.eq_iff_iff]; simp; omega), rfl⟩
  · have h2 : s.size < 1 := by omega
    go_enter Tryd.func42, Tryd.ntmps42
    go_wp2
    go_ret
    exact ⟨ret_b (by rw [HV.out, Bool.eq_iff_iff]; simp; omega), rfl⟩
theorem valK_any (l : Bs) (w : World) (hl : l.length ≤ 140737488355328) :
    Calls Tryd.prog 42 #[.string ⟨l.toArray⟩] w fun e w' => e = .returned (.bool (validK l)) ∧ w = w' := by
  have := valK_s ⟨l.toArray⟩ w (by rw [sz_of]; exact hl)
  exact this
set_option maxHeartbeats 400000 in
theorem valT_s (s : ByteArray) (w : World) (hs : s.size ≤ 140737488355328) :
    Calls Tryd.prog 43 #[.string s] w fun e w' => e = .returned (.bool (validT s.data.toList)) ∧ w = w' := by
  have HV : Hid (validT s.data.toList = (decide (1 ≤ s.size) && decide (s.size ≤ 64))) := by show _ = _; unfold validT; rw [len_eq]
  by_cases h0 : 1 ≤ s.size
  · have d0 : decide (1 ≤ s.size) = true := by simpa using h0
    go_enter Tryd.func43, Tryd.ntmps43
    go_wp2
    go_ret
    exact ⟨ret_b (by rw [HV.out, Bool.eq_iff_iff]; simp; omega), rfl⟩
  · have h2 : s.size < 1 := by omega
    go_enter Tryd.func43, Tryd.ntmps43
    go_wp2
    go_ret
    exact ⟨ret_b (by rw [HV.out, Bool.eq_iff_iff]; simp; omega), rfl⟩
theorem valT_any (l : Bs) (w : World) (hl : l.length ≤ 140737488355328) :
    Calls Tryd.prog 43 #[.string ⟨l.toArray⟩] w fun e w' => e = .returned (.bool (validT l)) ∧ w = w' := by
  have := valT_s ⟨l.toArray⟩ w (by rw [sz_of]; exact hl)
  exact this
set_option maxHeartbeats 400000 in
theorem valP_s (s : ByteArray) (w : World) (hs : s.size ≤ 140737488355328) :
    Calls Tryd.prog 44 #[.string s] w fun e w' => e = .returned (.bool (validP s.data.toList)) ∧ w = w' := by
  have HV : Hid (validP s.data.toList = decide (s.size ≤ 250)) := by show _ = _; unfold validP; rw [len_eq]
  go_enter Tryd.func44, Tryd.ntmps44
  go_wp2
  go_ret
  exact ⟨ret_b (by rw [HV.out, Bool.eq_iff_iff]; simp; omega), rfl⟩
theorem valP_any (l : Bs) (w : World) (hl : l.length ≤ 140737488355328) :
    Calls Tryd.prog 44 #[.string ⟨l.toArray⟩] w fun e w' => e = .returned (.bool (validP l)) ∧ w = w' := by
  have := valP_s ⟨l.toArray⟩ w (by rw [sz_of]; exact hl)
  exact this
set_option maxHeartbeats 400000 in
theorem allowedK_any (h : Bool) (l : Bs) (w : World) (hl : l.length ≤ 1000000) :
    Calls Tryd.prog 41 #[.bool h, .string ⟨l.toArray⟩, .func (.func 42) #[] #[]] w fun e w' => e = .returned (.bool (allowS h l (validK l))) ∧ w = w' := by
  have HF := Lib.hid (fun W => valK_any l W (by omega))
  generalize validK l = b at *
  cases h with
  | false =>
    have HA : Hid (allowS false l b = decide (l = [])) := by show _ = _; unfold allowS; simp
    go_enter Tryd.func41, Tryd.ntmps41
    go_wp2_with fail
    go_ret
    exact ⟨ret_b (by rw [HA.out, Bool.eq_iff_iff]; simp), rfl⟩
  | true =>
    have HA : Hid (allowS true l b = b) := by show _ = _; unfold allowS; simp
    go_enter Tryd.func41, Tryd.ntmps41
    go_wp2_with fail
    refine (HF.out _).mono ?_
    rintro e w' ⟨rfl, rfl⟩
    go_wp2_with fail
    go_ret
    exact ⟨ret_b HA.out.symm, rfl⟩
set_option maxHeartbeats 400000 in
theorem allowedT_any (h : Bool) (l : Bs) (w : World) (hl : l.length ≤ 1000000) :
    Calls Tryd.prog 41 #[.bool h, .string ⟨l.toArray⟩, .func (.func 43) #[] #[]] w fun e w' => e = .returned (.bool (allowS h l (validT l))) ∧ w = w' := by
  have HF := Lib.hid (fun W => valT_any l W (by omega))
  generalize validT l = b at *
  cases h with
  | false =>
    have HA : Hid (allowS false l b = decide (l = [])) := by show _ = _; unfold allowS; simp
    go_enter Tryd.func41, Tryd.ntmps41
    go_wp2_with fail
    go_ret
    exact ⟨ret_b (by rw [HA.out, Bool.eq_iff_iff]; simp), rfl⟩
  | true =>
    have HA : Hid (allowS true l b = b) := by show _ = _; unfold allowS; simp
    go_enter Tryd.func41, Tryd.ntmps41
    go_wp2_with fail
    refine (HF.out _).mono ?_
    rintro e w' ⟨rfl, rfl⟩
    go_wp2_with fail
    go_ret
    exact ⟨ret_b HA.out.symm, rfl⟩
set_option maxHeartbeats 400000 in
theorem allowedP_any (h : Bool) (l : Bs) (w : World) (hl : l.length ≤ 1000000) :
    Calls Tryd.prog 41 #[.bool h, .string ⟨l.toArray⟩, .func (.func 44) #[] #[]] w fun e w' => e = .returned (.bool (allowS h l (validP l))) ∧ w = w' := by
  have HF := Lib.hid (fun W => valP_any l W (by omega))
  generalize validP l = b at *
  cases h with
  | false =>
    have HA : Hid (allowS false l b = decide (l = [])) := by show _ = _; unfold allowS; simp
    go_enter Tryd.func41, Tryd.ntmps41
    go_wp2_with fail
    go_ret
    exact ⟨ret_b (by rw [HA.out, Bool.eq_iff_iff]; simp), rfl⟩
  | true =>
    have HA : Hid (allowS true l b = b) := by show _ = _; unfold allowS; simp
    go_enter Tryd.func41, Tryd.ntmps41
    go_wp2_with fail
    refine (HF.out _).mono ?_
    rintro e w' ⟨rfl, rfl⟩
    go_wp2_with fail
    go_ret
    exact ⟨ret_b HA.out.symm, rfl⟩
set_option maxRecDepth 100000 in
set_option maxHeartbeats 400000 in
theorem allowedListK_any (h : Bool) (A : Option Addr) (l : List Bs) (c lo hi : Nat) (w : World) (hA : Rd w A l) (hhi : hi ≤ 1000) (hx : ∀ s ∈ l, s.length ≤ 1000000) :
    Calls Tryd.prog 45 #[.bool h, .slice A l.length c, .int .i64 (lo : Int), .int .i64 (hi : Int), .func (.func 42) #[] #[]] w fun e w' => e = .returned (.bool (allowL h l lo hi validK)) ∧ w = w' := by
  obtain ⟨g, hg⟩ : ∃ g, g = validK := ⟨_, rfl⟩
  rw [← hg]
  have HF : Hid (∀ s ∈ l, ∀ W, Calls Tryd.prog 42 #[.string ⟨s.toArray⟩] W fun e w' => e = .returned (.bool (g s)) ∧ W = w') := fun s hs W => by rw [hg]; exact valK_any s W (by have := hx s hs; omega)
  clear hx hg
  cases h with
  | false =>
    have HA : Hid (allowL false l lo hi g = decide (l.length = 0)) := by show _ = _; unfold allowL; simp
    go_enter Tryd.func45, Tryd.ntmps45
    go_wp2_with fail
    go_ret
    exact ⟨ret_b (by rw [HA.out, Bool.eq_iff_iff]; simp), rfl⟩
  | true =>
    by_cases h1 : lo ≤ l.length
    · by_cases h2 : l.length ≤ hi
      · have HA : Hid (allowL true l lo hi g = l.all g) := by show _ = _; unfold allowL; simp [h1, h2]
        have d1 : ¬ (l.length : Int) < lo := by omega
        have d2 : ¬ (hi : Int) < l.length := by omega
        go_enter Tryd.func45, Tryd.ntmps45
        go_wp2_with fail
        go_loop [30] (fun i => ∃ k : Nat, k ≤ l.length ∧ i = .int .i64 (k : Int) ∧ (l.take k).all g = true) (fun i => l.length - (intOf i).toNat)
        case atStart => exact ⟨0, Nat.zero_le _, rfl, rfl⟩
        case round =>
          obtain ⟨k, hk, rfl, ha⟩ := hrel
          have HL := Lib.hid ha; clear ha
          by_cases hlt : k < l.length
          · obtain ⟨b, o, rfl, hb, hc⟩ := hA.at_ hlt
            have i1 : (k : Int) < l.length := by omega
            have HQ := Lib.hid (HF.out _ (List.getElem_mem hlt))
            have HT : Hid (l.take (k + 1) = l.take k ++ [l[k]]) := List.take_succ_eq_append_getElem hlt
            cases hg : g l[k] with
            | true =>
              have HN : Hid ((l.take (k + 1)).all g = true) := by show _ = _; rw [HT.out, List.all_append, HL.out]; simp [hg]
              rw [hg] at HQ
              clear hg
              go_wp2_with fail
              refine (HQ.out _).mono ?_
              rintro e w' ⟨rfl, rfl⟩
              go_wp2_with fail
              go_round
              case rel => exact ⟨k + 1, by omega, by go_num, HN.out⟩
              case measure => simp [intOf]; omega
            | false =>
              have HN : Hid (l.all g = false) := by show _ = _; rw [List.all_eq_false]; exact ⟨_, List.getElem_mem hlt, by simp [hg]⟩
              rw [hg] at HQ
              clear hg
              go_wp2_with fail
              refine (HQ.out _).mono ?_
              rintro e w' ⟨rfl, rfl⟩
              go_wp2_with fail
              go_ret
              exact ⟨ret_b (by rw [HA.out, HN.out]), rfl⟩
          · obtain rfl : k = l.length := by omega
            have hnn : ¬ (l.length : Int) < l.length := by omega
            go_wp2_with fail
            go_ret
            refine ⟨ret_b ?_, rfl⟩
            have := HL.out
            rw [List.take_length] at this
            rw [HA.out, this]
      · have HA : Hid (allowL true l lo hi g = false) := by show _ = _; unfold allowL; simp [h2]
        have d1 : ¬ (l.length : Int) < lo := by omega
        have d2 : (hi : Int) < l.length := by omega
        clear h1 h2
        go_enter Tryd.func45, Tryd.ntmps45
        go_wp2_with fail
        go_ret
        exact ⟨ret_b HA.out.symm, rfl⟩
    · have HA : Hid (allowL true l lo hi g = false) := by show _ = _; unfold allowL; simp [h1]
      have d1 : (l.length : Int) < lo := by omega
      clear h1
      go_enter Tryd.func45, Tryd.ntmps45
      go_wp2_with fail
      go_ret
      exact ⟨ret_b HA.out.symm, rfl⟩
set_option maxRecDepth 100000 in
set_option maxHeartbeats 400000 in
theorem allowedListT_any (h : Bool) (A : Option Addr) (l : List Bs) (c lo hi : Nat) (w : World) (hA : Rd w A l) (hhi : hi ≤ 1000) (hx : ∀ s ∈ l, s.length ≤ 1000000) :
    Calls Tryd.prog 45 #[.bool h, .slice A l.length c, .int .i64 (lo : Int), .int .i64 (hi : Int), .func (.func 43) #[] #[]] w fun e w' => e = .returned (.bool (allowL h l lo hi validT)) ∧ w = w' := by
  obtain ⟨g, hg⟩ : ∃ g, g = validT := ⟨_, rfl⟩
  rw [← hg]
  have HF : Hid (∀ s ∈ l, ∀ W, Calls Tryd.prog 43 #[.string ⟨s.toArray⟩] W fun e w' => e = .returned (.bool (g s)) ∧ W = w') := fun s hs W => by rw [hg]; exact valT_any s W (by have := hx s hs; omega)
  clear hx hg
  cases h with
  | false =>
    have HA : Hid (allowL false l lo hi g = decide (l.length = 0)) := by show _ = _; unfold allowL; simp
    go_enter Tryd.func45, Tryd.ntmps45
    go_wp2_with fail
    go_ret
    exact ⟨ret_b (by rw [HA.out, Bool.eq_iff_iff]; simp), rfl⟩
  | true =>
    by_cases h1 : lo ≤ l.length
    · by_cases h2 : l.length ≤ hi
      · have HA : Hid (allowL true l lo hi g = l.all g) := by show _ = _; unfold allowL; simp [h1, h2]
        have d1 : ¬ (l.length : Int) < lo := by omega
        have d2 : ¬ (hi : Int) < l.length := by omega
        go_enter Tryd.func45, Tryd.ntmps45
        go_wp2_with fail
        go_loop [30] (fun i => ∃ k : Nat, k ≤ l.length ∧ i = .int .i64 (k : Int) ∧ (l.take k).all g = true) (fun i => l.length - (intOf i).toNat)
        case atStart => exact ⟨0, Nat.zero_le _, rfl, rfl⟩
        case round =>
          obtain ⟨k, hk, rfl, ha⟩ := hrel
          have HL := Lib.hid ha; clear ha
          by_cases hlt : k < l.length
          · obtain ⟨b, o, rfl, hb, hc⟩ := hA.at_ hlt
            have i1 : (k : Int) < l.length := by omega
            have HQ := Lib.hid (HF.out _ (List.getElem_mem hlt))
            have HT : Hid (l.take (k + 1) = l.take k ++ [l[k]]) := List.take_succ_eq_append_getElem hlt
            cases hg : g l[k] with
            | true =>
              have HN : Hid ((l.take (k + 1)).all g = true) := by show _ = _; rw [HT.out, List.all_append, HL.out]; simp [hg]
              rw [hg] at HQ
              clear hg
              go_wp2_with fail
              refine (HQ.out _).mono ?_
              rintro e w' ⟨rfl, rfl⟩
              go_wp2_with fail
              go_round
              case rel => exact ⟨k + 1, by omega, by go_num, HN.out⟩
              case measure => simp [intOf]; omega
            | false =>
              have HN : Hid (l.all g = false) := by show _ = _; rw [List.all_eq_false]; exact ⟨_, List.getElem_mem hlt, by simp [hg]⟩
              rw [hg] at HQ
              clear hg
              go_wp2_with fail
              refine (HQ.out _).mono ?_
              rintro e w' ⟨rfl, rfl⟩
              go_wp2_with fail
              go_ret
              exact ⟨ret_b (by rw [HA.out, HN.out]), rfl⟩
          · obtain rfl : k = l.length := by omega
            have hnn : ¬ (l.length : Int) < l.length := by omega
            go_wp2_with fail
            go_ret
            refine ⟨ret_b ?_, rfl⟩
            have := HL.out
            rw [List.take_length] at this
            rw [HA.out, this]
      · have HA : Hid (allowL true l lo hi g = false) := by show _ = _; unfold allowL; simp [h2]
        have d1 : ¬ (l.length : Int) < lo := by omega
        have d2 : (hi : Int) < l.length := by omega
        clear h1 h2
        go_enter Tryd.func45, Tryd.ntmps45
        go_wp2_with fail
        go_ret
        exact ⟨ret_b HA.out.symm, rfl⟩
    · have HA : Hid (allowL true l lo hi g = false) := by show _ = _; unfold allowL; simp [h1]
      have d1 : (l.length : Int) < lo := by omega
      clear h1
      go_enter Tryd.func45, Tryd.ntmps45
      go_wp2_with fail
      go_ret
      exact ⟨ret_b HA.out.symm, rfl⟩
end Go.Proofs.YthlfahblnpijaaaDoor.Qv
