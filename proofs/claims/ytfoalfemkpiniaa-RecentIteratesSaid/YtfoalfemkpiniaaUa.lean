/- Proves what the functions of the specification's order return, for lists of numbers in memory. Conditions: as each theorem names them. -/
import Derived.Test.YtfoalfemkpiniaaNw
import Derived.BigQuiet
import Derived.Deep.QuietTactic
namespace Go.Proofs.Ytfoalfemkpiniaa.Ua
open Go.RowKit Ap Mi Nw

def iv (l : List Int) : List Value := l.map fun n => .int .i64 n
theorem iv_len (l : List Int) : (iv l).length = l.length := by unfold iv; simp
theorem iv_get {l : List Int} {i : Nat} (hi : i < l.length) : (iv l)[i]? = some (.int .i64 l[i]) := by unfold iv; rw [List.getElem?_map, List.getElem?_eq_getElem hi]; rfl
theorem iv_one (l : List Int) : ∀ u ∈ iv l, u.oneCell' = true := fun u hu => by obtain ⟨y, _, rfl⟩ := List.mem_map.1 hu; rfl
theorem iv_snoc (l : List Int) (n : Int) : iv (l ++ [n]) = iv l ++ [.int .i64 n] := by unfold iv; simp
/-- A slice that reads as a list of numbers. -/
def Li (w : World) (A : Option Addr) (l : List Int) (c : Nat) : Prop := Rs w 1 A l.length c (iv l)
theorem Li.below {w w' : World} {A : Option Addr} {l : List Int} {c B : Nat} (h : Li w A l c) (hb : Below B w w') (hB : w.heap.size ≤ B) : Li w' A l c := Rs.below h hb hB
theorem Li.only {w w' : World} {A : Option Addr} {l : List Int} {c : Nat} (h : Li w A l c) {F : Nat → Prop} (ho : Only F w w') (hn : ∀ a, A = some a → ¬ F a.block) : Li w' A l c := Rs.only h ho hn
theorem Li.nil (w : World) : Li w none [] 0 := Rs.nil w 1
theorem Li.at_ {w : World} {A : Option Addr} {l : List Int} {c : Nat} (h : Li w A l c) {i : Nat} (hi : i < l.length) : ∃ b o, A = some ⟨b, o, none⟩ ∧ b < w.heap.size ∧ w.cell? ⟨b, o + i, none⟩ = some (.int .i64 l[i]) := Rs.rd h |>.at_ (iv_get hi)
theorem Li.mine {B : Nat} {w : World} {A : Option Addr} {c : Nat} {l : List Int} (h : Mine B 1 w A l.length c (iv l)) : Li w A l c := Rs.mine h
theorem elI : Elm Try.prog 26 3 (.int .i64 0) 1 where
  sl := Try.underlying26
  info := by kernel_rfl
  small := by
    have h : (Try.prog.info? 3).map (·.bytes) = some 8 := by kernel_rfl
    intro i hi; rw [hi] at h; simp at h; omega
  cells := rfl
  pos := by omega

/-- Which numbers are those of slots. -/
def Sl (n : Int) : Prop := 0 ≤ n ∧ n < 1048576
instance (n : Int) : Decidable (Sl n) := inferInstanceAs (Decidable (_ ∧ _))
/-- The place of a number. -/
def ixOf (l : List Int) (n : Int) : Int := if n ∈ l then (l.idxOf n : Int) else -1
theorem ix_at {l : List Int} {n : Int} {k : Nat} (hk : k < l.length) (he : l[k] = n) (hm : ∀ j (h : j < l.length), j < k → l[j] ≠ n) : ixOf l n = (k : Int) := by
  have hmem : n ∈ l := he ▸ List.getElem_mem hk
  unfold ixOf
  rw [if_pos hmem]
  have h1 := List.idxOf_lt_length_of_mem hmem
  have h2 : l[l.idxOf n] = n := List.getElem_idxOf h1
  rcases Nat.lt_trichotomy (l.idxOf n) k with h3 | h3 | h3
  · exact absurd h2 (hm _ h1 h3)
  · rw [h3]
  · have := List.not_of_lt_findIdx (p := (· == n)) (xs := l) (i := k) (by show k < l.idxOf n; exact h3)
    simp [he] at this
theorem ix_none {l : List Int} {n : Int} (hm : ∀ j (h : j < l.length), l[j] ≠ n) : n ∉ l ∧ ixOf l n = -1 := by
  have hmem : n ∉ l := fun h => by
    obtain ⟨j, hj, e⟩ := List.getElem_of_mem h
    exact hm j hj e
  exact ⟨hmem, by unfold ixOf; rw [if_neg hmem]⟩
theorem ix_neg {l : List Int} {n : Int} (h : n ∉ l) : ixOf l n = -1 := by unfold ixOf; rw [if_neg h]
theorem ix_pos {l : List Int} {n : Int} (h : n ∈ l) : ∃ k : Nat, ixOf l n = (k : Int) ∧ ∃ hk : k < l.length, l[k] = n := by
  unfold ixOf
  rw [if_pos h]
  exact ⟨_, rfl, List.idxOf_lt_length_of_mem h, List.getElem_idxOf _⟩
/-- A list with a number more, and an error. -/
def addT (l : List Int) (n : Int) : List Int := if Sl n ∧ n ∉ l then l ++ [n] else l
def addN (l : List Int) (n : Int) : Int := if ¬ Sl n then 2 else if n ∈ l then 11 else 0
/-- Without a number. -/
def wo (l : List Int) (n : Int) : List Int := l.filter (fun x => decide (x ≠ n))
def remT (l : List Int) (n : Int) : List Int := if Sl n ∧ n ∈ l then wo l n else l
def remN (l : List Int) (n : Int) : Int := if ¬ Sl n then 2 else if n ∈ l then 0 else 9
def useT (l : List Int) (n : Int) : List Int := if Sl n ∧ n ∈ l then wo l n ++ [n] else l
/-- The first one, and an error. -/
def oldV (l : List Int) : Int := l.headD 0
def oldN (l : List Int) : Int := if l.length = 0 then 9 else 0
/-- The one behind another one, and an error. -/
def nextN (l : List Int) (n : Int) : Int := if ¬ Sl n then 2 else if n ∉ l then 9 else if ixOf l n = (l.length : Int) - 1 then 16 else 0
def nextV (l : List Int) (n : Int) : Int := if nextN l n = 0 then l.getD (ixOf l n + 1).toNat 0 else 0

theorem slot_any (n : Int) (w : World) : Calls Try.prog 15 #[.int .i64 n] w fun e w' => e = .returned (.bool (decide (Sl n))) ∧ w' = w := by
  by_cases h0 : 0 ≤ n
  · by_cases h1 : n < 1048576
    · have HS : Hid (Sl n) := ⟨h0, h1⟩
      go_enter Try.func15, Try.ntmps15
      go_wp2_with fail
      go_ret
      exact ⟨retB (by simp [HS.out]), rfl⟩
    · have HS : Hid (¬ Sl n) := fun h => h1 h.2
      go_enter Try.func15, Try.ntmps15
      go_wp2_with fail
      go_ret
      exact ⟨retB (by simp [HS.out]), rfl⟩
  · have HS : Hid (¬ Sl n) := fun h => h0 h.1
    go_enter Try.func15, Try.ntmps15
    go_wp2_with fail
    go_ret
    exact ⟨retB (by simp [HS.out]), rfl⟩
theorem slot_yes {n : Int} (h : Sl n) (w : World) : Calls Try.prog 15 #[.int .i64 n] w fun e w' => e = .returned (.bool true) ∧ w' = w := by
  refine (slot_any n w).mono ?_
  rintro e w' ⟨rfl, rfl⟩; exact ⟨retB (by simp [h]), rfl⟩
theorem slot_no {n : Int} (h : ¬ Sl n) (w : World) : Calls Try.prog 15 #[.int .i64 n] w fun e w' => e = .returned (.bool false) ∧ w' = w := by
  refine (slot_any n w).mono ?_
  rintro e w' ⟨rfl, rfl⟩; exact ⟨retB (by simp [h]), rfl⟩
set_option maxRecDepth 100000 in
set_option maxHeartbeats 1000000 in
theorem at_any {w : World} {A : Option Addr} {l : List Int} {c : Nat} (h : Li w A l c) (n : Int) (hn : l.length ≤ 100000000) :
    Calls Try.prog 31 #[.slice A l.length c, .int .i64 n] w fun e w' => e = .returned (.int .i64 (ixOf l n)) ∧ w' = w := by
  have HT := Lib.hid h
  have g1 : (l.length : Int) ≤ 100000000 := by omega
  have hcap := Rs.max h
  clear h
  go_enter Try.func31, Try.ntmps31
  go_wp2_with fail
  go_loopw [5] (fun i wr => ∃ K : Nat, K ≤ l.length ∧ i = .int .i64 (K : Int) ∧ wr = w ∧ Hid (∀ j (h : j < l.length), j < K → l[j] ≠ n)) (fun i _ => l.length - (intOf i).toNat)
  case atStart => exact ⟨0, Nat.zero_le _, rfl, rfl, fun j _ hj => by omega⟩
  case round =>
    obtain ⟨K, hK, rfl, rfl, hm⟩ := hrel
    by_cases hlt : K < l.length
    · have j1 : (K : Int) < (l.length : Int) := by omega
      obtain ⟨tb, to_, rfl, ltb, a0⟩ := HT.out.at_ hlt
      by_cases he : l[K] = n
      · have HE := Lib.hid (ix_at hlt he hm.out)
        have hbe : (l[K] == n) = true := by simpa using he
        clear he
        go_wp2_with fail
        go_ret
        exact ⟨retI HE.out.symm, rfl⟩
      · have HE := Lib.hid he
        have hbe : (l[K] == n) = false := by simpa using he
        clear he
        go_wp2_with fail
        go_roundw
        case rel => exact ⟨K + 1, by omega, by go_num, trivial, fun j h hj => by
          rcases Nat.lt_or_ge j K with h1 | h1
          · exact hm.out j h h1
          · have : j = K := by omega
            subst this
            exact HE.out⟩
        case measure => simp [intOf]; omega
    · obtain rfl : K = l.length := by omega
      have hnn : ¬ (l.length : Int) < l.length := by omega
      go_wp2_with fail
      go_ret
      exact ⟨retI (ix_none (fun j h => hm.out j h h)).2.symm, rfl⟩
end Go.Proofs.Ytfoalfemkpiniaa.Ua
