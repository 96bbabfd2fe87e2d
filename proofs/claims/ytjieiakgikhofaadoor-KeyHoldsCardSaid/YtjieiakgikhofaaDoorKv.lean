/- Proves what the small functions of package key and of its specification return, over the translated program: which strings are keys, tags, prefixes; plain bytes, digits and what they stand for. Conditions: lengths below the form's own bound, bytes in their range. -/
import Derived.Test.YtjieiakgikhofaaDoorKt
import Derived.Test.YtjieiakgikhofaaDoorRows
import Derived.WalkKit
import Derived.WalkSpells
import Derived.WalkLawsBesides
import Derived.Lib.Hide
namespace Go.Proofs.YtjieiakgikhofaaDoor.Kv
open Go.RowKit Km Kt

theorem len_eq (s : ByteArray) : s.data.toList.length = s.size := by simp
def validS (s : ByteArray) : Bool := validL s.data.toList
theorem validS_yes {s : ByteArray} (h0 : 1 ≤ s.size) (h1 : s.size ≤ 250) : validS s = true := by unfold validS validL; rw [len_eq]; simpa using ⟨h0, h1⟩
theorem validS_no {s : ByteArray} (h0 : ¬ (1 ≤ s.size ∧ s.size ≤ 250)) : validS s = false := by unfold validS validL; rw [len_eq]; simpa using h0
def validTagS (s : ByteArray) : Bool := validTagL s.data.toList
theorem validTagS_yes {s : ByteArray} (h0 : 1 ≤ s.size) (h1 : s.size ≤ 64) : validTagS s = true := by unfold validTagS validTagL; rw [len_eq]; simpa using ⟨h0, h1⟩
theorem validTagS_no {s : ByteArray} (h0 : ¬ (1 ≤ s.size ∧ s.size ≤ 64)) : validTagS s = false := by unfold validTagS validTagL; rw [len_eq]; simpa using h0
def validPreS (s : ByteArray) : Bool := decide (s.size ≤ 250)
theorem ret_b {a b : Bool} (h : a = b) : Ending.returned (.bool a) = .returned (.bool b) := by rw [h]


set_option maxHeartbeats 400000 in
theorem valid_any (s : ByteArray) (w : World) (hs : s.size ≤ maxLen) :
    Calls Tryd.prog 11 #[.string s] w fun e w' => e = .returned (.bool (validS s)) ∧ w = w' := by
  unfold maxLen at hs
  by_cases h0 : 1 ≤ s.size
  · by_cases h1 : s.size ≤ 250
    · have HV := Lib.hid (validS_yes h0 h1)
      go_enter Tryd.func11, Tryd.ntmps11
      go_wp2
      go_ret
      exact ⟨ret_b (by rw [HV.out]; simp; omega), rfl⟩
    · have HV := Lib.hid (validS_no (s := s) (by omega))
      have h2 : 250 < s.size := by omega
      clear h1
      go_enter Tryd.func11, Tryd.ntmps11
      go_wp2
      go_ret
      exact ⟨ret_b (by rw [HV.out]; simp; omega), rfl⟩
  · have HV := Lib.hid (validS_no (s := s) (by omega))
    have h2 : s.size < 1 := by omega
    clear h0
    go_enter Tryd.func11, Tryd.ntmps11
    go_wp2
    go_ret
    exact ⟨ret_b (by rw [HV.out]), rfl⟩

set_option maxHeartbeats 400000 in
theorem rvalid_any (s : ByteArray) (w : World) (hs : s.size ≤ maxLen) :
    Calls Tryd.prog 12 #[.string s] w fun e w' => e = .returned (.bool (validS s)) ∧ w = w' := by
  unfold maxLen at hs
  by_cases h0 : 1 ≤ s.size
  · by_cases h1 : s.size ≤ 250
    · have HV := Lib.hid (validS_yes h0 h1)
      go_enter Tryd.func12, Tryd.ntmps12
      go_wp2
      go_ret
      exact ⟨ret_b (by rw [HV.out]; simp; omega), rfl⟩
    · have HV := Lib.hid (validS_no (s := s) (by omega))
      have h2 : 250 < s.size := by omega
      clear h1
      go_enter Tryd.func12, Tryd.ntmps12
      go_wp2
      go_ret
      exact ⟨ret_b (by rw [HV.out]; simp; omega), rfl⟩
  · have HV := Lib.hid (validS_no (s := s) (by omega))
    have h2 : s.size < 1 := by omega
    clear h0
    go_enter Tryd.func12, Tryd.ntmps12
    go_wp2
    go_ret
    exact ⟨ret_b (by rw [HV.out]), rfl⟩

set_option maxHeartbeats 400000 in
theorem validTag_any (s : ByteArray) (w : World) (hs : s.size ≤ maxLen) :
    Calls Tryd.prog 13 #[.string s] w fun e w' => e = .returned (.bool (validTagS s)) ∧ w = w' := by
  unfold maxLen at hs
  by_cases h0 : 1 ≤ s.size
  · by_cases h1 : s.size ≤ 64
    · have HV := Lib.hid (validTagS_yes h0 h1)
      go_enter Tryd.func13, Tryd.ntmps13
      go_wp2
      go_ret
      exact ⟨ret_b (by rw [HV.out]; simp; omega), rfl⟩
    · have HV := Lib.hid (validTagS_no (s := s) (by omega))
      have h2 : 64 < s.size := by omega
      clear h1
      go_enter Tryd.func13, Tryd.ntmps13
      go_wp2
      go_ret
      exact ⟨ret_b (by rw [HV.out]; simp; omega), rfl⟩
  · have HV := Lib.hid (validTagS_no (s := s) (by omega))
    have h2 : s.size < 1 := by omega
    clear h0
    go_enter Tryd.func13, Tryd.ntmps13
    go_wp2
    go_ret
    exact ⟨ret_b (by rw [HV.out]), rfl⟩

set_option maxHeartbeats 400000 in
theorem rvalidTag_any (s : ByteArray) (w : World) (hs : s.size ≤ maxLen) :
    Calls Tryd.prog 14 #[.string s] w fun e w' => e = .returned (.bool (validTagS s)) ∧ w = w' := by
  unfold maxLen at hs
  by_cases h0 : 1 ≤ s.size
  · by_cases h1 : s.size ≤ 64
    · have HV := Lib.hid (validTagS_yes h0 h1)
      go_enter Tryd.func14, Tryd.ntmps14
      go_wp2
      go_ret
      exact ⟨ret_b (by rw [HV.out]; simp; omega), rfl⟩
    · have HV := Lib.hid (validTagS_no (s := s) (by omega))
      have h2 : 64 < s.size := by omega
      clear h1
      go_enter Tryd.func14, Tryd.ntmps14
      go_wp2
      go_ret
      exact ⟨ret_b (by rw [HV.out]; simp; omega), rfl⟩
  · have HV := Lib.hid (validTagS_no (s := s) (by omega))
    have h2 : s.size < 1 := by omega
    clear h0
    go_enter Tryd.func14, Tryd.ntmps14
    go_wp2
    go_ret
    exact ⟨ret_b (by rw [HV.out]), rfl⟩

set_option maxHeartbeats 400000 in
theorem validPre_any (s : ByteArray) (w : World) (hs : s.size ≤ maxLen) :
    Calls Tryd.prog 15 #[.string s] w fun e w' => e = .returned (.bool (validPreS s)) ∧ w = w' := by
  unfold maxLen at hs
  go_enter Tryd.func15, Tryd.ntmps15
  go_wp2
  go_ret
  exact ⟨ret_b (by unfold validPreS; congr 1; rw [eq_iff_iff]; omega), rfl⟩

set_option maxHeartbeats 400000 in
theorem rvalidPre_any (s : ByteArray) (w : World) (hs : s.size ≤ maxLen) :
    Calls Tryd.prog 16 #[.string s] w fun e w' => e = .returned (.bool (validPreS s)) ∧ w = w' := by
  unfold maxLen at hs
  go_enter Tryd.func16, Tryd.ntmps16
  go_wp2
  go_ret
  exact ⟨ret_b (by unfold validPreS; congr 1; rw [eq_iff_iff]; omega), rfl⟩

set_option maxHeartbeats 400000 in
theorem plain_any (a : Int) (w : World) (h0 : 0 ≤ a) (h1 : a < 256) :
    Calls Tryd.prog 54 #[.int .u8 a] w fun e w' => e = .returned (.bool (plainI a)) ∧ w = w' := by
  by_cases g1 : 33 ≤ a
  · by_cases g2 : a ≤ 126
    · by_cases g3 : a = 37
      · subst g3
        go_enter Tryd.func54, Tryd.ntmps54
        go_wp2
        go_ret
        exact ⟨ret_b (by decide), rfl⟩
      · by_cases g4 : a = 34
        · subst g4
          go_enter Tryd.func54, Tryd.ntmps54
          go_wp2
          go_ret
          exact ⟨ret_b (by decide), rfl⟩
        · have HV : Hid (plainI a = true) := by show _ = _; unfold plainI; rw [decide_eq_true_eq]; exact ⟨g1, g2, g3, g4⟩
          have b1 : (a != 37) = true := by rw [bne_iff_ne]; exact g3
          have b2 : (a != 34) = true := by rw [bne_iff_ne]; exact g4
          have b3 : (a == 37) = false := by rw [beq_eq_false_iff_ne]; exact g3
          have b4 : (a == 34) = false := by rw [beq_eq_false_iff_ne]; exact g4
          clear g3 g4
          go_enter Tryd.func54, Tryd.ntmps54
          go_wp2
          go_ret
          exact ⟨ret_b (by rw [HV.out]), rfl⟩
    · have HV : Hid (plainI a = false) := by show _ = _; unfold plainI; rw [decide_eq_false_iff_not]; exact fun h => g2 h.2.1
      have g : 126 < a := by omega
      clear g2
      go_enter Tryd.func54, Tryd.ntmps54
      go_wp2
      go_ret
      exact ⟨ret_b (by rw [HV.out]), rfl⟩
  · have HV : Hid (plainI a = false) := by show _ = _; unfold plainI; rw [decide_eq_false_iff_not]; exact fun h => g1 h.1
    have g : a < 33 := by omega
    clear g1
    go_enter Tryd.func54, Tryd.ntmps54
    go_wp2
    go_ret
    exact ⟨ret_b (by rw [HV.out]), rfl⟩

set_option maxHeartbeats 400000 in
theorem rplain_any (a : Int) (w : World) (h0 : 0 ≤ a) (h1 : a < 256) :
    Calls Tryd.prog 43 #[.int .u8 a] w fun e w' => e = .returned (.bool (plainI a)) ∧ w = w' := by
  by_cases g1 : 33 ≤ a
  · by_cases g2 : a ≤ 126
    · by_cases g3 : a = 37
      · subst g3
        go_enter Tryd.func43, Tryd.ntmps43
        go_wp2
        go_ret
        exact ⟨ret_b (by decide), rfl⟩
      · by_cases g4 : a = 34
        · subst g4
          go_enter Tryd.func43, Tryd.ntmps43
          go_wp2
          go_ret
          exact ⟨ret_b (by decide), rfl⟩
        · have HV : Hid (plainI a = true) := by show _ = _; unfold plainI; rw [decide_eq_true_eq]; exact ⟨g1, g2, g3, g4⟩
          have b1 : (a != 37) = true := by rw [bne_iff_ne]; exact g3
          have b2 : (a != 34) = true := by rw [bne_iff_ne]; exact g4
          have b3 : (a == 37) = false := by rw [beq_eq_false_iff_ne]; exact g3
          have b4 : (a == 34) = false := by rw [beq_eq_false_iff_ne]; exact g4
          clear g3 g4
          go_enter Tryd.func43, Tryd.ntmps43
          go_wp2
          go_ret
          exact ⟨ret_b (by rw [HV.out]), rfl⟩
    · have HV : Hid (plainI a = false) := by show _ = _; unfold plainI; rw [decide_eq_false_iff_not]; exact fun h => g2 h.2.1
      have g : 126 < a := by omega
      clear g2
      go_enter Tryd.func43, Tryd.ntmps43
      go_wp2
      go_ret
      exact ⟨ret_b (by rw [HV.out]), rfl⟩
  · have HV : Hid (plainI a = false) := by show _ = _; unfold plainI; rw [decide_eq_false_iff_not]; exact fun h => g1 h.1
    have g : a < 33 := by omega
    clear g1
    go_enter Tryd.func43, Tryd.ntmps43
    go_wp2
    go_ret
    exact ⟨ret_b (by rw [HV.out]), rfl⟩
end Go.Proofs.YtjieiakgikhofaaDoor.Kv
