/- Proves what package request's Op returns, and the specification's Words and Needs. Condition: the table is laid. -/
import Derived.Test.YtefadkdngcbpiaaDoorQe
namespace Go.Proofs.YtefadkdngcbpiaaDoor.Qo
open Go.RowKit Vm Ap Vw Va Gc Mi Mb Qm Qs Qe

/-- The number of the Op with a word: the first place of the table from k on. -/
def findW (l : Bs) : Nat → Nat → Int
  | 0, _ => 0
  | n + 1, k => if wordL k = l then (k : Int) + 1 else findW l n (k + 1)
def opN (l : Bs) : Int := findW l 15 0
def opE (l : Bs) : Int := if opN l = 0 then 6 else 0
theorem find_pos (l : Bs) : ∀ n k, findW l n k = 0 ∨ ((k : Int) + 1 ≤ findW l n k ∧ findW l n k ≤ (k : Int) + n)
  | 0, k => Or.inl rfl
  | n + 1, k => by
    unfold findW
    split
    · right; omega
    · rcases find_pos l n (k + 1) with h | h
      · exact Or.inl h
      · right; omega
def rowV (k : Nat) : Value := .agg #[.string (wordS k), .int .u64 (maskN k : Int)]
theorem infoRows : (Tryd.prog.info? 62).map (·.size) = some rowsCells.size := by kernel_rfl
theorem idxRow : ∀ (k : Nat) (w : World), k < 15 → (Instr.index 62 (.agg rowsCells) (.int .i64 k)).run Tryd.prog w = .ok (rowV k) w
  | 0, w, _ | 1, w, _ | 2, w, _ | 3, w, _ | 4, w, _ | 5, w, _ | 6, w, _ | 7, w, _ | 8, w, _ | 9, w, _ | 10, w, _ | 11, w, _ | 12, w, _ | 13, w, _ | 14, w, _ => by kernel_rfl
  | k + 15, _, h => by omega
def opPost (w : World) (l : Bs) : Ending → World → Prop := fun e w' => e = .returned (.tuple #[.int .i64 (opN l), .int .i64 (opE l)]) ∧ Below w.heap.size w w'
set_option maxRecDepth 100000 in
set_option maxHeartbeats 1000000 in
theorem op_any (l : Bs) (w : World) (he : Env w) :
    Calls Tryd.prog 18 #[.string ⟨l.toArray⟩] w (opPost w l) := by
  obtain ⟨ty, fr, hg⟩ := he.tab
  have HG := Lib.hid hg; clear hg
  go_enter Tryd.func18, Tryd.ntmps18
  go_wp2_with (refine wpList_load_row rfl 62 _ rfl 0 rfl _ rowsCells _ _ HG.out Tryd.underlying62 rfl infoRows ?_)
  go_loopw [4, 5, 7] (fun _ _ i wr => ∃ k : Nat, k ≤ 15 ∧ i = .int .i64 (k : Int) ∧ findW l 15 0 = findW l (15 - k) k ∧ Below w.heap.size w wr) (fun _ _ i _ => 15 - (intOf i).toNat)
  case atStart => exact ⟨0, Nat.zero_le _, rfl, rfl, Below.refl _ _⟩
  case round =>
    obtain ⟨k, hk, rfl, hf, hbel⟩ := hrel
    have HF := Lib.hid hf; clear hf
    have HB := Lib.hid hbel; clear hbel
    have hz := HB.out.size
    by_cases hlt : k < 15
    · have hi := idxRow k wr hlt
      have HN : Hid (findW l (15 - k) k = if wordL k = l then (k : Int) + 1 else findW l (15 - (k + 1)) (k + 1)) := by
        show _ = _
        rw [show 15 - k = (15 - (k + 1)) + 1 from by omega, findW]
      unfold rowV wordS at hi
      have h15 : (k : Int) < 15 := by omega
      by_cases hq : wordL k = l
      · have hb : (wordL k == l) = true := by simpa using hq
        have HP : Hid (opN l = (k : Int) + 1) := by show _ = _; unfold opN; rw [HF.out, HN.out, if_pos hq]
        have HE : Hid (opE l = 0) := by show _ = _; unfold opE; rw [HP.out, if_neg (by omega)]
        clear hq
        generalize wordL k = x at *
        go_wp2_with fail
        go_ret2
        exact ⟨by rw [HP.out, HE.out]; rfl, HB.out.alloc hz _⟩
      · have hb : (wordL k == l) = false := by simpa using hq
        have HP : Hid (findW l 15 0 = findW l (15 - (k + 1)) (k + 1)) := by show _ = _; rw [HF.out, HN.out, if_neg hq]
        clear hq
        generalize wordL k = x at *
        go_wp2_with fail
        go_roundw
        case rel => exact ⟨k + 1, by omega, by go_num, HP.out, HB.out.alloc hz _⟩
        case measure => simp [intOf]; omega
    · obtain rfl : k = 15 := by omega
      have HP : Hid (opN l = 0) := by show _ = _; unfold opN; rw [HF.out]; rfl
      have HE : Hid (opE l = 6) := by show _ = _; unfold opE; rw [HP.out, if_pos rfl]
      go_wp2_with fail
      go_ret2
      exact ⟨by rw [HP.out, HE.out]; rfl, HB.out⟩
/-- The words, by the numbers of the Ops. -/
def wordsL : List Bs := [[], wordL 0, wordL 1, wordL 2, wordL 3, wordL 4, wordL 5, wordL 6, wordL 7, wordL 8, wordL 9, wordL 10, wordL 11, wordL 12, wordL 13, wordL 14]
theorem words_get (k : Nat) (h : k < 15) : wordsL[k + 1]? = some (wordL k) := by
  match k, h with
  | 0, _ | 1, _ | 2, _ | 3, _ | 4, _ | 5, _ | 6, _ | 7, _ | 8, _ | 9, _ | 10, _ | 11, _ | 12, _ | 13, _ | 14, _ => rfl
  | k + 15, h => omega
def wordsPost (w : World) : Ending → World → Prop := fun e w' => ∃ b, e = .returned (.slice (some ⟨b, 0, none⟩) 16 16) ∧ Rd w' (some ⟨b, 0, none⟩) wordsL ∧ Below w.heap.size w w'
theorem rd_words (w : World) : Rd (w.alloc (.cells (wordsL.map strV).toArray 9)) (some ⟨w.heap.size, 0, none⟩) wordsL := Rd.lit w wordsL
set_option maxRecDepth 100000 in
set_option maxHeartbeats 400000 in
theorem words_any (w : World) : Calls Tryd.prog 17 #[] w (wordsPost w) := by
  have HW := Lib.hid (rd_words w)
  go_enter Tryd.func17, Tryd.ntmps17
  go_wp2_with fail
  go_ret
  exact ⟨_, rfl, HW.out, alloc_below _ _⟩
theorem needs_at (k : Nat) (h : k < 15) : needs ((k : Int) + 1) = needsN k := by
  unfold needs
  rw [if_pos (by unfold inOp; simp; omega)]
  unfold kx
  congr 1
  omega
def needsS (op : Int) : ByteArray := ⟨(needs op).toArray⟩
set_option maxRecDepth 100000 in
set_option maxHeartbeats 1000000 in
theorem needs_any (op : Int) (w : World) :
    Calls Tryd.prog 35 #[.int .i64 op] w fun e w' => e = .returned (.string (needsS op)) ∧ w = w' := by
  by_cases h : inOp op = true
  · obtain ⟨k, hk, rfl, _⟩ := in_cases h
    have HN := Lib.hid (needs_at k hk)
    clear h
    unfold needsS
    rw [HN.out]
    match k, hk with
    | 0, _ | 1, _ | 2, _ | 3, _ | 4, _ | 5, _ | 6, _ | 7, _ | 8, _ | 9, _ | 10, _ | 11, _ | 12, _ | 13, _ | 14, _ =>
      go_enter Tryd.func35, Tryd.ntmps35
      go_wp2_with fail
      go_ret
      exact ⟨rfl, rfl⟩
    | k + 15, h => omega
  · have HN : Hid (needs op = []) := by show _ = _; unfold needs; rw [if_neg h]
    have hx : op < 1 ∨ 15 < op := by
      unfold inOp at h
      simp only [Bool.and_eq_true, decide_eq_true_eq] at h
      omega
    unfold needsS
    rw [HN.out]
    have n1 : (op == 1) = false := by rw [beq_eq_false_iff_ne]; omega
    have n2 : (op == 2) = false := by rw [beq_eq_false_iff_ne]; omega
    have n3 : (op == 3) = false := by rw [beq_eq_false_iff_ne]; omega
    have n4 : (op == 4) = false := by rw [beq_eq_false_iff_ne]; omega
    have n5 : (op == 5) = false := by rw [beq_eq_false_iff_ne]; omega
    have n6 : (op == 6) = false := by rw [beq_eq_false_iff_ne]; omega
    have n7 : (op == 7) = false := by rw [beq_eq_false_iff_ne]; omega
    have n8 : (op == 8) = false := by rw [beq_eq_false_iff_ne]; omega
    have n9 : (op == 9) = false := by rw [beq_eq_false_iff_ne]; omega
    have n10 : (op == 10) = false := by rw [beq_eq_false_iff_ne]; omega
    have n11 : (op == 11) = false := by rw [beq_eq_false_iff_ne]; omega
    have n12 : (op == 12) = false := by rw [beq_eq_false_iff_ne]; omega
    have n13 : (op == 13) = false := by rw [beq_eq_false_iff_ne]; omega
    clear h hx
    go_enter Tryd.func35, Tryd.ntmps35
    go_wp2_with fail
    go_ret
    exact ⟨rfl, rfl⟩
end Go.Proofs.YtefadkdngcbpiaaDoor.Qo
