/- Proves plain facts about lists of slots with deadlines in order, and what the specification's functions Slot, At, Same and the clock's Due return. Conditions: as each theorem names them. -/
import Derived.Test.YtpalbccoiejmoaaYa
namespace Go.Proofs.Ytpalbccoiejmoaa.Yb
open Go.RowKit Ap Mi Nw Ya

/-- Which numbers are those of slots, and which are times. -/
def Sl (n : Int) : Prop := 0 ≤ n ∧ n < 1048576
instance (n : Int) : Decidable (Sl n) := inferInstanceAs (Decidable (_ ∧ _))
def Tm (a : Int) : Prop := 0 ≤ a ∧ a < 18446744073709551616
theorem slot_any (n : Int) (w : World) : Calls Try.prog 20 #[.int .i64 n] w fun e w' => e = .returned (.bool (decide (Sl n))) ∧ w' = w := by
  by_cases h0 : 0 ≤ n
  · by_cases h1 : n < 1048576
    · have HS : Hid (Sl n) := ⟨h0, h1⟩
      go_enter Try.func20, Try.ntmps20
      go_wp2_with fail
      go_ret
      exact ⟨retB (by simp [HS.out]), rfl⟩
    · have HS : Hid (¬ Sl n) := fun h => h1 h.2
      go_enter Try.func20, Try.ntmps20
      go_wp2_with fail
      go_ret
      exact ⟨retB (by simp [HS.out]), rfl⟩
  · have HS : Hid (¬ Sl n) := fun h => h0 h.1
    go_enter Try.func20, Try.ntmps20
    go_wp2_with fail
    go_ret
    exact ⟨retB (by simp [HS.out]), rfl⟩
theorem slot_yes {n : Int} (h : Sl n) (w : World) : Calls Try.prog 20 #[.int .i64 n] w fun e w' => e = .returned (.bool true) ∧ w' = w := by
  refine (slot_any n w).mono ?_
  rintro e w' ⟨rfl, rfl⟩; exact ⟨retB (by simp [h]), rfl⟩
theorem slot_no {n : Int} (h : ¬ Sl n) (w : World) : Calls Try.prog 20 #[.int .i64 n] w fun e w' => e = .returned (.bool false) ∧ w' = w := by
  refine (slot_any n w).mono ?_
  rintro e w' ⟨rfl, rfl⟩; exact ⟨retB (by simp [h]), rfl⟩
/-- Whether a deadline has come. -/
def isDue (d now : Int) : Prop := d ≠ 18446744073709551615 ∧ d ≤ now
instance (d now : Int) : Decidable (isDue d now) := inferInstanceAs (Decidable (_ ∧ _))
theorem rdue_any (d n : Int) (w : World) : Calls Try.prog 34 #[.int .u64 d, .int .u64 n] w fun e w' => e = .returned (.bool (decide (isDue d n))) ∧ w' = w := by
  by_cases h : d = 18446744073709551615
  · have HD : Hid (¬ isDue d n) := fun k => k.1 h
    have hb : (d != 18446744073709551615) = false := by simpa using h
    clear h
    go_enter Try.func34, Try.ntmps34
    go_wp2_with fail
    go_ret
    exact ⟨retB (by simp [HD.out]), rfl⟩
  · have hb : (d != 18446744073709551615) = true := by simpa using h
    by_cases k : d ≤ n
    · have HD : Hid (isDue d n) := ⟨h, k⟩
      clear h
      go_enter Try.func34, Try.ntmps34
      go_wp2_with fail
      go_ret
      exact ⟨retB (by simp [HD.out]), rfl⟩
    · have HD : Hid (¬ isDue d n) := fun j => k j.2
      clear h
      go_enter Try.func34, Try.ntmps34
      go_wp2_with fail
      go_ret
      exact ⟨retB (by simp [HD.out]), rfl⟩
/-- The numbers of the slots, and the place of one. -/
def ns (l : List Td) : List Int := l.map (·.1)
theorem ns_len (l : List Td) : (ns l).length = l.length := by unfold ns; simp
theorem ns_get {l : List Td} {k : Nat} (hk : k < (ns l).length) : (ns l)[k] = (l[k]'(by rw [ns_len] at hk; exact hk)).1 := List.getElem_map _
theorem mem_ns {l : List Td} {n : Int} : n ∈ ns l ↔ ∃ x ∈ l, x.1 = n := by unfold ns; simp [List.mem_map]
def kx (l : List Td) (n : Int) : Int := if n ∈ ns l then ((ns l).idxOf n : Int) else -1
theorem kx_at {l : List Td} {n : Int} {k : Nat} (hk : k < l.length) (he : l[k].1 = n) (hm : ∀ j (h : j < l.length), j < k → l[j].1 ≠ n) : kx l n = (k : Int) := by
  have e : (ns l)[k]'(by rw [ns_len]; exact hk) = n := (ns_get _).trans he
  have hmem : n ∈ ns l := e ▸ List.getElem_mem _
  unfold kx
  rw [if_pos hmem]
  have h1 := List.idxOf_lt_length_of_mem hmem
  have h2 : (ns l)[(ns l).idxOf n] = n := List.getElem_idxOf h1
  rcases Nat.lt_trichotomy ((ns l).idxOf n) k with h3 | h3 | h3
  · exact absurd ((ns_get h1).symm.trans h2) (hm _ (by omega) h3)
  · rw [h3]
  · have := List.not_of_lt_findIdx (p := (· == n)) (xs := ns l) (i := k) (by show k < (ns l).idxOf n; exact h3)
    simp [e] at this
theorem kx_none {l : List Td} {n : Int} (hm : ∀ j (h : j < l.length), l[j].1 ≠ n) : n ∉ ns l ∧ kx l n = -1 := by
  have hmem : n ∉ ns l := fun h => by
    obtain ⟨x, hx, e⟩ := mem_ns.1 h
    obtain ⟨j, hj, ej⟩ := List.getElem_of_mem hx
    exact hm j hj (by rw [ej]; exact e)
  exact ⟨hmem, by unfold kx; rw [if_neg hmem]⟩
theorem kx_neg {l : List Td} {n : Int} (h : n ∉ ns l) : kx l n = -1 := by unfold kx; rw [if_neg h]
theorem kx_pos {l : List Td} {n : Int} (h : n ∈ ns l) : ∃ k : Nat, kx l n = (k : Int) ∧ ∃ hk : k < l.length, l[k].1 = n := by
  unfold kx
  rw [if_pos h]
  have h1 := List.idxOf_lt_length_of_mem h
  exact ⟨_, rfl, by rw [ns_len] at h1; exact h1, (ns_get h1).symm.trans (List.getElem_idxOf h1)⟩
theorem kx_geq {l : List Td} {n : Int} : (n ∈ ns l → 0 ≤ kx l n) ∧ (n ∉ ns l → kx l n < 0) :=
  ⟨fun h => by obtain ⟨k, e, _⟩ := kx_pos h; omega, fun h => by rw [kx_neg h]; omega⟩
set_option maxRecDepth 100000 in
set_option maxHeartbeats 1000000 in
theorem at_any {w : World} {A : Option Addr} {l : List Td} {c : Nat} (h : Lt w A l c) (n : Int) (hn : l.length ≤ 100000000) :
    Calls Try.prog 29 #[.slice A l.length c, .int .i64 n] w fun e w' => e = .returned (.int .i64 (kx l n)) ∧ w' = w := by
  have HT := Lib.hid h
  have g1 : (l.length : Int) ≤ 100000000 := by omega
  have hcap := Rs.max h
  clear h
  go_enter Try.func29, Try.ntmps29
  go_wp2_with fail
  go_loopw [5] (fun i wr => ∃ K : Nat, K ≤ l.length ∧ i = .int .i64 (K : Int) ∧ wr = w ∧ Hid (∀ j (h : j < l.length), j < K → l[j].1 ≠ n)) (fun i _ => l.length - (intOf i).toNat)
  case atStart => exact ⟨0, Nat.zero_le _, rfl, rfl, fun j _ hj => by omega⟩
  case round =>
    obtain ⟨K, hK, rfl, rfl, hm⟩ := hrel
    by_cases hlt : K < l.length
    · have j1 : (K : Int) < (l.length : Int) := by omega
      obtain ⟨tb, to_, rfl, ltb, a0, a1⟩ := HT.out.at_ hlt
      by_cases he : l[K].1 = n
      · have HE := Lib.hid (kx_at hlt he hm.out)
        have hbe : (l[K].1 == n) = true := by simpa using he
        clear he
        go_wp2_with fail
        go_ret
        exact ⟨retI HE.out.symm, rfl⟩
      · have HE := Lib.hid he
        have hbe : (l[K].1 == n) = false := by simpa using he
        clear he
        go_wp2_with fail
        go_roundw
        case rel => exact ⟨K + 1, by omega, by go_num, trivial, fun j h hj => by
          rcases Nat.lt_or_ge j K with h1 | h1
          · exact hm.out j h h1
          · have : j = K := by omega
            subst this
            exact HE.out⟩
        case measure => simp [intOf]; omega
    · obtain rfl : K = l.length := by omega
      have hnn : ¬ (l.length : Int) < l.length := by omega
      go_wp2_with fail
      go_ret
      exact ⟨retI (kx_none (fun j h => hm.out j h h)).2.symm, rfl⟩
end Go.Proofs.Ytpalbccoiejmoaa.Yb
