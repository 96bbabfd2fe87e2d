/- Proves plain facts on folders, texts and strings that the walk of KeyHolds asks. No condition. -/
import Derived.Test.YtjieiakgikhofaaDoorLnames
namespace Go.Proofs.YtjieiakgikhofaaDoor.Lfold
open Go.RowKit Km Kt Kv Kl Kc Ap Kx Ky Kr Ks Kf Kg Kj Ku Kz Ka Kk Lnames

theorem back_str (s : ByteArray) : (⟨s.data.toList.toArray⟩ : ByteArray) = s := by cases s; simp
theorem has_take (s : Bs) (n : Nat) : Lib.hasPrefix s (s.take n) = true := by
  unfold Lib.hasPrefix
  rw [List.isPrefixOf_iff_prefix]; exact List.take_prefix _ _
theorem fold_is (s : Bs) {k : Nat} (h : k < (foldersL s).length) : ∃ j, j < s.length ∧ s[j]? = some 47 ∧ (foldersL s)[k] = s.take (j + 1) := foldTo_mem s s.length _ (List.getElem_mem h)
theorem fold_has (s : ByteArray) {k : Nat} (h : k < (foldersL s.data.toList).length) : hasS s ⟨(foldersL s.data.toList)[k].toArray⟩ = true := by
  obtain ⟨j, _, _, e⟩ := fold_is s.data.toList h
  rw [e]; exact has_take _ _
theorem fold_len (s : Bs) {k : Nat} (h : k < (foldersL s).length) : 0 < (foldersL s)[k].length ∧ (foldersL s)[k].length ≤ s.length := by
  obtain ⟨j, hj, _, e⟩ := fold_is s h
  rw [e, List.length_take]; omega
theorem fold_last (s : Bs) {k : Nat} (h : k < (foldersL s).length) : (foldersL s)[k][(foldersL s)[k].length - 1]? = some 47 := by
  obtain ⟨j, hj, hs, e⟩ := fold_is s h
  rw [e, List.length_take, Nat.min_eq_left (by omega), List.getElem?_take, if_pos (by omega)]
  exact hs
theorem fold_prev (s : Bs) {k : Nat} (h : k < (foldersL s).length) (hk : 0 < k) : hasS ⟨(foldersL s)[k].toArray⟩ ⟨(foldersL s)[k - 1].toArray⟩ = true := by
  have hp := List.pairwise_iff_getElem.1 (foldTo_pair s s.length) (k - 1) k (by unfold foldersL at h; omega) h (by omega)
  obtain ⟨n, hn⟩ := hp.2
  have e : (foldersL s)[k - 1] = (foldersL s)[k].take n := hn
  rw [e]
  exact has_take _ _
theorem enc_sum : ∀ s : Bs, (s.flatMap encC).length ≤ 3 * s.length
  | [] => by simp
  | c :: r => by
    have := enc_sum r
    have := enc_len c
    rw [List.flatMap_cons, List.length_append, List.length_cons]
    omega
theorem text_size (s : Bs) (h : s.length ≤ 250) : (textL s).length ≤ 1000 := by
  unfold textL
  split
  · simp
  · have := enc_sum s; omega
theorem folds_count (s : Bs) : (foldersL s).length ≤ s.length := foldTo_le s s.length
/-- Join of the segments: the key itself. -/
theorem join_back (s : ByteArray) (A : Option Addr) (n c : Nat) (l : List Bs) (w : World) (he : Env w) (hv : validS s = true) (hl : segs s.data.toList = l) (hn : l.length = n) (hA : Rd w A l) (hc : n ≤ c) :
    Calls Tryd.prog 26 #[.slice A n c] w fun e w' => e = .returned (.tuple #[.string s, .int .i64 0]) ∧ After w w' := by
  have hj := joinOk_segs s.data.toList hv
  have hz : s.data.toList.length ≤ 250 := by unfold validS validL at hv; rw [decide_eq_true_eq] at hv; omega
  have hjl := join_segs s.data.toList
  rw [hl] at hj hjl
  have hlen : l.length ≤ 1000000 := by rw [← hl, segs_len]; have := List.count_le_length (a := (47 : UInt8)) (l := s.data.toList); omega
  have hx : ∀ x ∈ l, x.length ≤ 1000000 := by
    intro x hx
    have h1 : x.length ≤ (joinL l).length := by
      have : ∀ r : List Bs, ∀ y ∈ r, y.length ≤ (joinL r).length := by
        intro r
        induction r with
        | nil => intro y hy; cases hy
        | cons a r ih =>
          intro y hy
          cases r with
          | nil =>
            obtain rfl : y = a := by simpa using hy
            rw [joinL_one]; exact Nat.le_refl _
          | cons b r =>
            rw [joinL_cons2]
            rcases List.mem_cons.1 hy with rfl | hy
            · simp
            · have := ih y hy; simp; omega
      exact this l x hx
    rw [hjl] at h1; omega
  refine (join_at A n c l s.data.toList 0 w he hn hA hc hlen hx (by rw [(join_yes hj).1, hjl]) (join_yes hj).2).mono fun e w' hh => ?_
  unfold strRes at hh
  rw [back_str] at hh
  exact hh
/-- Parse, and Text of what it read: the text again. -/
theorem parse_cases (t : ByteArray) : (parseR t = [] ∧ parseE t = 6) ∨ ∃ y, parseR t = y ∧ parseE t = 0 ∧ textL y = t.data.toList ∧ y.length ≤ 250 := by
  cases h : parseV t.data.toList with
  | none => exact Or.inl (parse_none h)
  | some y => exact Or.inr ⟨y, (parse_some h).1, (parse_some h).2, (text_parse _ _ h).1, (text_parse _ _ h).2⟩
theorem parse_at (t : ByteArray) (y : Bs) (e : Int) (w : World) (he : Env w) (ht : t.size ≤ maxLen) (h : parseR t = y) (h' : parseE t = e) :
    Calls Tryd.prog 36 #[.string t] w (strRes w y e) := by
  subst h; subst h'
  exact (parse_any t w he ht).mono fun _ _ hh => ⟨hh.1, After.of hh.2⟩
theorem bs_size (y : Bs) : (⟨y.toArray⟩ : ByteArray).size = y.length := by show y.toArray.size = _; simp
theorem text_back (y : Bs) (t : ByteArray) (w : World) (he : Env w) (hy : y.length ≤ 250) (h : textL y = t.data.toList) :
    Calls Tryd.prog 32 #[.string ⟨y.toArray⟩] w fun e w' => e = .returned (.tuple #[.string t, .int .i64 0]) ∧ After w w' := by
  refine (text_at ⟨y.toArray⟩ t.data.toList w he (by rw [bs_size]; exact hy) h).mono fun e w' hh => ?_
  unfold strRes at hh
  rw [back_str] at hh
  exact hh
theorem text_long (s : ByteArray) (w : World) (he : Env w) (hs : s.size ≤ maxLen) (h : 250 < s.size) :
    Calls Tryd.prog 32 #[.string s] w (strRes w [] 5) := by
  refine (text_any s w he hs).mono fun _ _ hh => ⟨?_, After.of hh.2⟩
  rw [hh.1, if_pos h, if_pos h]; rfl
/-- The text of a key is read back. -/
theorem parses_back (s : ByteArray) (w : World) (he : Env w) (hs : s.size ≤ 250) :
    Calls Tryd.prog 35 #[.string ⟨(textL s.data.toList).toArray⟩, .string s, .int .i64 0] w (boolAfter w) := by
  have hl : s.data.toList.length ≤ 250 := by rw [len_eq]; exact hs
  have hp := parse_text s.data.toList hl
  have hq := parse_some (s := ⟨(textL s.data.toList).toArray⟩) (x := s.data.toList) hp
  exact parses_true _ s 0 w he (by rw [bs_size]; have := text_size _ hl; unfold maxLen; omega) hq.1 hq.2
theorem tagsV_mem {l : List Bs} {b : Nat} (h : ∀ x ∈ l, x.length ≤ b) : ∀ x ∈ tagsV l, x.length ≤ b := by
  intro x hx
  unfold tagsV at hx
  split at hx
  · exact h x ((mem_tags l x).1 hx)
  · cases hx
end Go.Proofs.YtjieiakgikhofaaDoor.Lfold
