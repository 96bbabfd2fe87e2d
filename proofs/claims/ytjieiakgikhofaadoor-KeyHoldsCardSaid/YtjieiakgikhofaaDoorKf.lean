/- Proves what Segments and Folders return, and their like of the specification. Conditions: lengths below the form's own bound (the specification's: at most 600 bytes). -/
import Derived.Test.YtjieiakgikhofaaDoorKs
import Derived.Test.YtjieiakgikhofaaDoorShelf
namespace Go.Proofs.YtjieiakgikhofaaDoor.Kf
open Go.RowKit Km Kt Kv Kl Ap Kx Ky Kr Ks

theorem elS : El Tryd.prog 26 9 (.string ⟨#[]⟩) where
  sl := Tryd.underlying26
  info := by kernel_rfl
  small := by
    have h : (Tryd.prog.info? 9).map (·.bytes) = some 16 := by kernel_rfl
    intro i hi; rw [hi] at h; simp at h; omega
  one := rfl
/-- A row of the call's own that reads as the list l. -/
def Own (B : Nat) (w : World) (v : Value) (l : List Bs) : Prop := w.ownsRow B 9 1 v l.length (l.map strV)
theorem own_row {B : Nat} {w : World} {v : Value} {l : List Bs} (h : Own B w v l) : w.ownsRow B 9 1 v l.length (l.map strV) := h
def strsPost (w : World) (l : List Bs) (n : Int) : Ending → World → Prop := fun e w' => ∃ v, e = .returned (.tuple #[v, .int .i64 n]) ∧ Own w.heap.size w' v l ∧ Below w.heap.size w w'
def rstrsPost (w : World) (l : List Bs) : Ending → World → Prop := fun e w' => ∃ v, e = .returned v ∧ Own w.heap.size w' v l ∧ Below w.heap.size w w'
def segsR (s : ByteArray) : List Bs := if validS s then segs s.data.toList else []
def foldsR (s : ByteArray) : List Bs := if validS s then foldersL s.data.toList else []
def argE (s : ByteArray) : Int := if validS s then 0 else 2
theorem own_nil (B : Nat) (w : World) : Own B w (.slice none 0 0) [] := World.ownsRow_nil _ _ _ _

theorem ret_vi {v v' : Value} {a b : Int} (h : v = v') (k : a = b) : Ending.returned (.tuple #[v, .int .i64 a]) = .returned (.tuple #[v', .int .i64 b]) := by rw [h, k]
theorem ret_v {v v' : Value} (h : v = v') : Ending.returned v = .returned v' := by rw [h]
theorem strs_map (l : List ByteArray) : (l.map (·.data.toList)).map strV = l.map Value.string := by
  rw [List.map_map]
  refine List.map_congr_left fun x _ => ?_
  simp [strV]
theorem own_split (B : Nat) (s : ByteArray) (w : World) (hB : B ≤ w.heap.size) (hs : s.size < 4294967281) : Own B (w.alloc (.cells ((Lib.splitB ⟨#[47]⟩ 0 (Lib.countB s ⟨#[47]⟩) s).map Value.string).toArray 9)) (.slice (some ⟨w.heap.size, 0, none⟩) (Lib.countB s ⟨#[47]⟩ + 1) (Lib.countB s ⟨#[47]⟩ + 1)) (segs s.data.toList) := by
  have e1 := split_segs s
  have e2 := count_segs s
  have e3 : (segs s.data.toList).length ≤ s.size + 1 := by rw [segs_len]; have := List.count_le_length (a := (47 : UInt8)) (l := s.data.toList); rw [len_eq] at this; omega
  have h := World.ownsRow_lit (base := B) (e := 9) (size := 1) w ((Lib.splitB ⟨#[47]⟩ 0 (Lib.countB s ⟨#[47]⟩) s).map Value.string).toArray (segs s.data.toList).length hB (by unfold maxLen; omega) (by rw [← e1]; simp)
  unfold Own
  rw [e2]
  have e4 : ((Lib.splitB ⟨#[47]⟩ 0 (Lib.countB s ⟨#[47]⟩) s).map Value.string).toArray.toList = (segs s.data.toList).map strV := by rw [← e1, strs_map]
  rw [e4] at h
  exact h

set_option maxRecDepth 100000 in
set_option maxHeartbeats 400000 in
theorem segments_any (s : ByteArray) (w : World) (he : Env w) (hs : s.size ≤ maxLen) :
    Calls Tryd.prog 21 #[.string s] w (strsPost w (segsR s) (argE s)) := by
  have HV := Lib.hid (valid_any s w hs)
  by_cases hv : validS s = true
  · have hz : s.size < 4294967281 := by
      unfold validS validL at hv; rw [decide_eq_true_eq, len_eq] at hv; omega
    obtain ⟨m, hm⟩ := he.mlen
    have HSp := Lib.hid (Tryd.strings_Split s ⟨#[47]⟩ m w hz hm (by show 1 ≤ 1; omega))
    have h1 : Hid (segsR s = segs s.data.toList ∧ argE s = 0) := by show _ ∧ _; unfold segsR argE; rw [if_pos hv, if_pos hv]; exact ⟨rfl, rfl⟩
    have HVV := Lib.hid hv; clear hv hm
    unfold maxLen at hs
    go_enter Tryd.func21, Tryd.ntmps21
    go_wp2_with fail
    refine HV.out.mono ?_
    rintro e w1 ⟨rfl, rfl⟩
    rw [HVV.out]
    go_wp2_with fail
    refine HSp.out.mono ?_
    rintro e w1 ⟨rfl, rfl⟩
    go_wp2_with fail
    go_ret2
    exact ⟨_, ret_vi rfl h1.out.2.symm, by rw [h1.out.1]; exact own_split _ s w (Nat.le_refl _) hz, (Below.refl _ _).alloc (Nat.le_refl _) _⟩
  · have h1 : Hid (segsR s = [] ∧ argE s = 2) := by show _ ∧ _; unfold segsR argE; rw [if_neg hv, if_neg hv]; exact ⟨rfl, rfl⟩
    have HVV : Hid (validS s = false) := by show _ = _; simpa using hv
    clear hv
    unfold maxLen at hs
    go_enter Tryd.func21, Tryd.ntmps21
    go_wp2_with fail
    refine HV.out.mono ?_
    rintro e w1 ⟨rfl, rfl⟩
    rw [HVV.out]
    go_wp2_with fail
    go_ret2
    exact ⟨_, ret_vi rfl h1.out.2.symm, by rw [h1.out.1]; exact own_nil _ _, Below.refl _ _⟩

theorem foldTo_hit {s : Bs} {k : Nat} (h : s[k]? = some 47) : foldTo s (k + 1) = foldTo s k ++ [s.take (k + 1)] := by rw [foldTo, if_pos h]
theorem foldTo_miss {s : Bs} {k : Nat} (h : ¬ s[k]? = some 47) : foldTo s (k + 1) = foldTo s k := by rw [foldTo, if_neg h]
theorem foldTo_le (s : Bs) (k : Nat) : (foldTo s k).length ≤ k := by
  rw [foldTo_len]
  have := List.count_le_length (a := (47 : UInt8)) (l := s.take k)
  have := List.length_take_le k s
  omega
theorem byte_at (s : ByteArray) (k : Nat) (h : k < s.size) : s.data.toList[k]? = some s[k] := by
  rw [List.getElem?_eq_getElem (by rw [len_eq]; exact h)]; rfl
theorem pre_str (s : ByteArray) (k : Nat) : Value.string (s.extract 0 k) = strV (s.data.toList.take k) := str_of (by rw [Lib.extract_data]; simp)

set_option maxRecDepth 100000 in
set_option maxHeartbeats 400000 in
theorem folders_any (s : ByteArray) (w : World) (hs : s.size ≤ maxLen) :
    Calls Tryd.prog 22 #[.string s] w (strsPost w (foldsR s) (argE s)) := by
  have HV := Lib.hid (valid_any s w hs)
  by_cases hv : validS s = true
  · have hz : s.size ≤ 250 := by
      unfold validS validL at hv; rw [decide_eq_true_eq, len_eq] at hv; omega
    have h1 : Hid (foldsR s = foldersL s.data.toList ∧ argE s = 0) := by show _ ∧ _; unfold foldsR argE; rw [if_pos hv, if_pos hv]; exact ⟨rfl, rfl⟩
    have HVV := Lib.hid hv; clear hv hs
    go_enter Tryd.func22, Tryd.ntmps22
    go_wp2_with fail
    refine HV.out.mono ?_
    rintro e w1 ⟨rfl, rfl⟩
    rw [HVV.out]
    go_wp2_with fail
    go_loopw [4, 5, 11] (fun v _ i wr => ∃ k : Nat, k ≤ s.size ∧ i = .int .i64 k ∧ Own w.heap.size wr v (foldTo s.data.toList k) ∧ Below w.heap.size w wr) (fun _ _ i _ => s.size - (intOf i).toNat)
    case atStart => exact ⟨0, Nat.zero_le _, rfl, own_nil _ _, Below.refl _ _⟩
    case round =>
      obtain ⟨k, hk, rfl, hown, hbel⟩ := hrel
      have hfl := foldTo_le s.data.toList k
      have hsz := hbel.size
      have HO := Lib.hid hown; clear hown
      have HB := Lib.hid hbel; clear hbel
      by_cases hlt : k < s.size
      · have i1 : (k : Int) < s.size := by omega
        by_cases hc : s[k] = 47
        · have HF := Lib.hid (foldTo_hit (s := s.data.toList) (k := k) (by rw [byte_at s k hlt, hc]))
          have hbe : ((s.extract k (k + 1)).toList == [47]) = true := by rw [Lib.toList_data, one_data s k hlt, hc]; rfl
          clear hc
          go_wp2_with (refine wpList_app rfl _ _ elS rfl rfl (own_row HO.out) #[.string (s.extract 0 (k + 1))] rfl (by simp; rfl) (by omega) (by simp) hsz ?_)
          intro v' w2 h1' h2'
          have H1 : Hid (Own w.heap.size w2 v' (foldTo s.data.toList (k + 1))) := by
            show Own _ _ _ _
            unfold Own
            rw [HF.out, List.length_append, List.map_append]
            have := h1'
            rw [pre_str] at this
            exact this
          have HB2 := Lib.hid (HB.out.trans (grown_below (own_row HO.out) h2' hsz))
          clear h1' h2' hsz
          go_wp2_with fail
          go_roundw
          case rel => exact ⟨k + 1, by omega, by go_num, H1.out, HB2.out⟩
          case measure => simp [intOf]; omega
        · have HF := Lib.hid (foldTo_miss (s := s.data.toList) (k := k) (by rw [byte_at s k hlt]; simpa using hc))
          have hbe : ((s.extract k (k + 1)).toList == [47]) = false := by rw [Lib.toList_data, one_data s k hlt, beq_eq_false_iff_ne]; simpa using hc
          clear hc
          go_wp2_with fail
          go_roundw
          case rel => exact ⟨k + 1, by omega, by go_num, by rw [HF.out]; exact HO.out, HB.out⟩
          case measure => simp [intOf]; omega
      · obtain rfl : k = s.size := by omega
        have hnn : ¬ (s.size : Int) < s.size := by omega
        go_wp2_with fail
        go_ret2
        have e : foldersL s.data.toList = foldTo s.data.toList s.size := by unfold foldersL; rw [len_eq]
        exact ⟨_, ret_vi rfl h1.out.2.symm, by rw [h1.out.1, e]; exact HO.out, HB.out⟩
  · have h1 : Hid (foldsR s = [] ∧ argE s = 2) := by show _ ∧ _; unfold foldsR argE; rw [if_neg hv, if_neg hv]; exact ⟨rfl, rfl⟩
    have HVV : Hid (validS s = false) := by show _ = _; simpa using hv
    clear hv hs
    go_enter Tryd.func22, Tryd.ntmps22
    go_wp2_with fail
    refine HV.out.mono ?_
    rintro e w1 ⟨rfl, rfl⟩
    rw [HVV.out]
    go_wp2_with fail
    go_ret2
    exact ⟨_, ret_vi rfl h1.out.2.symm, by rw [h1.out.1]; exact own_nil _ _, Below.refl _ _⟩

set_option maxRecDepth 100000 in
set_option maxHeartbeats 400000 in
theorem rfolders_any (s : ByteArray) (w : World) (hz : s.size ≤ 600) :
    Calls Tryd.prog 25 #[.string s] w (rstrsPost w (foldersL s.data.toList)) := by
  go_enter Tryd.func25, Tryd.ntmps25
  go_wp2_with fail
  go_loopw [3, 4] (fun v i wr => ∃ k : Nat, k ≤ s.size ∧ i = .int .i64 (k + 1 : Nat) ∧ Own w.heap.size wr v (foldTo s.data.toList k) ∧ Below w.heap.size w wr) (fun _ i _ => s.size + 1 - (intOf i).toNat)
  case atStart => exact ⟨0, Nat.zero_le _, rfl, own_nil _ _, Below.refl _ _⟩
  case round =>
    obtain ⟨k, hk, rfl, hown, hbel⟩ := hrel
    have hfl := foldTo_le s.data.toList k
    have hsz := hbel.size
    have HO := Lib.hid hown; clear hown
    have HB := Lib.hid hbel; clear hbel
    by_cases hlt : k < s.size
    · have i1 : (k : Int) < s.size := by omega
      have i2 : (k : Int) + 1 ≤ s.size := by omega
      by_cases hc : s[k] = 47
      · have HF := Lib.hid (foldTo_hit (s := s.data.toList) (k := k) (by rw [byte_at s k hlt, hc]))
        have hbe : (((s[k].toNat : Nat) : Int) == 47) = true := by rw [hc]; rfl
        clear hc
        go_wp2_with (refine wpList_app rfl _ _ elS rfl rfl (own_row HO.out) #[.string (s.extract 0 (k + 1))] rfl (by simp; rfl) (by omega) (by simp) hsz ?_)
        intro v' w2 h1' h2'
        have H1 : Hid (Own w.heap.size w2 v' (foldTo s.data.toList (k + 1))) := by
          show Own _ _ _ _
          unfold Own
          rw [HF.out, List.length_append, List.map_append]
          have := h1'
          rw [pre_str] at this
          exact this
        have HB2 := Lib.hid (HB.out.trans (grown_below (own_row HO.out) h2' hsz))
        clear h1' h2' hsz
        go_wp2_with fail
        go_roundw
        case rel => exact ⟨k + 1, by omega, by go_num, H1.out, HB2.out⟩
        case measure => simp [intOf]; omega
      · have HF := Lib.hid (foldTo_miss (s := s.data.toList) (k := k) (by rw [byte_at s k hlt]; simpa using hc))
        have hbe : (((s[k].toNat : Nat) : Int) == 47) = false := by
          rw [beq_eq_false_iff_ne]; intro e; exact hc (UInt8.toNat_inj.1 (by have : (47 : UInt8).toNat = 47 := rfl; omega))
        clear hc
        go_wp2_with fail
        go_roundw
        case rel => exact ⟨k + 1, by omega, by go_num, by rw [HF.out]; exact HO.out, HB.out⟩
        case measure => simp [intOf]; omega
    · obtain rfl : k = s.size := by omega
      have hnn : ¬ (s.size : Int) + 1 ≤ s.size := by omega
      go_wp2_with fail
      go_ret
      have e : foldersL s.data.toList = foldTo s.data.toList s.size := by unfold foldersL; rw [len_eq]
      exact ⟨_, ret_v rfl, by rw [e]; exact HO.out, HB.out⟩
end Go.Proofs.YtjieiakgikhofaaDoor.Kf
