/- Proves what the program's Cost returns for a key, a value's length and tags. Conditions: few tags, none of them huge, and a value that is not. -/
import Derived.Test.YtocfinhbocjbgaaJc
import Derived.Test.YtocfinhbocjbgaaJt
namespace Go.Proofs.Ytocfinhbocjbgaa.Je
open Go.RowKit Ap Mi Nw Ja Jb Jc Km Kt Ks Kf

def lb (l : List ByteArray) : List Bs := l.map (·.data.toList)
theorem lb_len (l : List ByteArray) : (lb l).length = l.length := List.length_map _
theorem lb_get (l : List ByteArray) {i : Nat} (h : i < l.length) : (lb l)[i]'(by rw [lb_len]; exact h) = l[i].data.toList := by unfold lb; simp
theorem lb_str (k : ByteArray) : (⟨k.data.toList.toArray⟩ : ByteArray) = k := by cases k; rfl
theorem rd_lb {w : World} {A : Option Addr} {l : List ByteArray} {c : Nat} (h : Sl w A l c) : Ks.Rd w A (lb l) := by
  intro h0
  rw [lb_len] at h0
  obtain ⟨b, o, rfl, hb, _⟩ := h.at_ h0
  refine ⟨b, o, rfl, hb, fun j hj => ?_⟩
  have hj' : j < l.length := by rw [lb_len] at hj; exact hj
  obtain ⟨b', o', e, _, hc⟩ := h.at_ hj'
  injection e with e; injection e with e1 e2
  subst e1; subst e2
  rw [hc, lb_get l hj', lb_str]
theorem less_iff (a b : ByteArray) : Op.bytesLess a.toList b.toList = true ↔ a.data.toList < b.data.toList := by
  rw [Lib.toList_data, Lib.toList_data, bytesLess_eq]; simp
theorem good_sorted {l : List ByteArray} (h : good l l.length) : Sorted (lb l) := by
  have key : ∀ d i, (hi : i + d + 1 < l.length) → l[i].data.toList < l[i + d + 1].data.toList := by
    intro d
    induction d with
    | zero =>
      intro i hi
      have := (h (i + 0 + 1) hi (by omega)).2 (by omega)
      rw [less_iff] at this
      exact this
    | succ d ih =>
      intro i hi
      have h1 := ih i (by omega)
      have := (h (i + (d + 1) + 1) hi (by omega)).2 (by omega)
      rw [less_iff] at this
      exact List.lt_trans h1 this
  unfold Sorted lb
  rw [List.pairwise_map, List.pairwise_iff_getElem]
  intro i j hi hj hij
  have := key (j - i - 1) i (by omega)
  have e : i + (j - i - 1) + 1 = j := by omega
  simpa only [e] using this
theorem valid_lb (t : ByteArray) : validTagL t.data.toList = decide (tagOk t) := by
  unfold validTagL
  rw [Bool.eq_iff_iff, decide_eq_true_eq, decide_eq_true_eq]
  unfold tagOk
  simp
theorem ok_tags (l : List ByteArray) : okT l ↔ tagsE (lb l) = 0 ∧ tagsL (lb l) = lb l := by
  constructor
  · rintro ⟨h16, hg⟩
    have hs := tags_of_sorted _ (good_sorted hg)
    have hv : (lb l).all validTagL = true := by
      rw [List.all_eq_true]
      intro x hx
      unfold lb at hx
      obtain ⟨t, ht, rfl⟩ := List.mem_map.1 hx
      obtain ⟨i, hi, rfl⟩ := List.getElem_of_mem ht
      show validTagL _ = true
      rw [valid_lb, decide_eq_true (hg i hi hi).1]
    refine ⟨?_, hs⟩
    unfold tagsE
    rw [if_pos hv, hs, lb_len, if_neg (by omega)]
  · rintro ⟨h0, hs⟩
    have hv : (lb l).all validTagL = true := by
      cases e : (lb l).all validTagL with
      | true => rfl
      | false => unfold tagsE at h0; rw [e] at h0; simp at h0
    have h16 : ¬ 16 < (tagsL (lb l)).length := by
      intro hh; unfold tagsE at h0; rw [if_pos hv, if_pos hh] at h0; cases h0
    rw [hs, lb_len] at h16
    have hsr := tags_sorted (lb l)
    rw [hs] at hsr
    unfold Sorted lb at hsr
    rw [List.pairwise_map, List.pairwise_iff_getElem] at hsr
    refine ⟨by omega, fun i hi _ => ⟨?_, fun h0 => ?_⟩⟩
    · rw [List.all_eq_true] at hv
      have := hv l[i].data.toList (by unfold lb; exact List.mem_map.2 ⟨l[i], List.getElem_mem hi, rfl⟩)
      rw [valid_lb] at this
      exact of_decide_eq_true this
    · rw [less_iff]
      exact hsr (i - 1) i (by omega) hi (by omega)
theorem pvalid_any (k : ByteArray) (w : World) : Calls Try.prog 40 #[.string k] w fun q w' => q = .returned (.bool (decide (keyOk k))) ∧ w' = w := by
  by_cases h0 : 1 ≤ k.size
  · by_cases h1 : k.size ≤ 250
    · have HS : Hid (keyOk k) := ⟨h0, h1⟩
      have g0 : (k.size : Int) ≥ 1 := by omega
      have g1 : (k.size : Int) ≤ 250 := by omega
      go_enter Try.func40, Try.ntmps40
      go_wp2_with fail
      go_ret
      exact ⟨retB (by simp [HS.out]), rfl⟩
    · have HS : Hid (¬ keyOk k) := fun h => h1 h.2
      have g0 : (k.size : Int) ≥ 1 := by omega
      have g1 : ¬ (k.size : Int) ≤ 250 := by omega
      go_enter Try.func40, Try.ntmps40
      go_wp2_with fail
      go_ret
      exact ⟨retB (by simp [HS.out]), rfl⟩
  · have HS : Hid (¬ keyOk k) := fun h => h0 h.1
    have g0 : ¬ (k.size : Int) ≥ 1 := by omega
    go_enter Try.func40, Try.ntmps40
    go_wp2_with fail
    go_ret
    exact ⟨retB (by simp [HS.out]), rfl⟩
theorem map_inj {l m : List Bs} (h : l.map (fun s => (⟨s.toArray⟩ : ByteArray)) = m.map (fun s => (⟨s.toArray⟩ : ByteArray))) : l = m := by
  refine (List.map_inj_right (f := fun s : Bs => (⟨s.toArray⟩ : ByteArray)) ?_).1 h
  intro x y e
  have := congrArg (fun b : ByteArray => b.data.toList) e
  simpa using this
theorem seq_any (A C : Option Addr) (l m : List Bs) (c d : Nat) (w : World) (hA : Ks.Rd w A l) (hC : Ks.Rd w C m) (hl : l.length ≤ 1000000) (hm : m.length ≤ 1000000) :
    Calls Try.prog 41 #[.slice A l.length c, .slice C m.length d] w (fun e w' => e = .returned (.bool (decide (l = m))) ∧ ∃ n, w' = w.drewN n) := by
  by_cases hlen : l.length = m.length
  · by_cases h0 : l.length = 0
    · have e1 : l = [] := List.eq_nil_of_length_eq_zero h0
      have e2 : m = [] := List.eq_nil_of_length_eq_zero (by omega)
      subst e1; subst e2
      refine (Try.slices_Equal_string_empty A C c 0 d w (by omega)).mono ?_
      rintro e w' ⟨rfl, rfl⟩
      exact ⟨rfl, 0, rfl⟩
    · obtain ⟨b1, o1, rfl, _, c1⟩ := hA (by omega)
      obtain ⟨b2, o2, rfl, _, c2⟩ := hC (by omega)
      refine (Try.slices_Equal_string b1 o1 l.length c b2 o2 m.length d (l.map fun s => ⟨s.toArray⟩) (m.map fun s => ⟨s.toArray⟩) w (by simp) (by simp) (by omega) (by omega) ?_ ?_).mono ?_
      · intro j hj
        rw [List.length_map] at hj
        rw [c1 j hj]
        simp [List.getElem?_eq_getElem hj]
      · intro j hj
        rw [List.length_map] at hj
        rw [c2 j hj]
        simp [List.getElem?_eq_getElem hj]
      · rintro e w' ⟨rfl, q, rfl⟩
        refine ⟨retB ?_, q, rfl⟩
        rw [List.take_of_length_le (by simp), List.take_of_length_le (by simp), Bool.eq_iff_iff, decide_eq_true_eq, decide_eq_true_eq]
        exact ⟨map_inj, fun h => by rw [h]⟩
  · refine (Try.slices_Equal_string_lens A C l.length c m.length d w hlen).mono ?_
    rintro e w' ⟨rfl, rfl⟩
    refine ⟨retB ?_, 0, rfl⟩
    rw [eq_comm, decide_eq_false_iff_not]
    intro e; subst e; exact hlen rfl
set_option maxRecDepth 100000 in
theorem named_any (k : ByteArray) (c : Nat) (A : Option Addr) (l : List ByteArray) (w : World) (hl : Sl w A l c) (hn : l.length ≤ 1000) (hx : ∀ t ∈ l, t.size ≤ 1000000) :
    Calls Try.prog 37 #[.string k, .slice A l.length c] w fun q w' => ∃ b, q = .returned (.bool b) ∧ (b = true ↔ keyOk k ∧ okT l) ∧ Below w.heap.size w w' := by
  have HS := Lib.hid hl
  have HT := Lib.hid (Ku.tags_any A c (lb l) w (rd_lb hl) (by rw [lb_len]; omega) (fun x hx' => by
    unfold lb at hx'
    obtain ⟨t, ht, rfl⟩ := List.mem_map.1 hx'
    have := hx t ht
    simpa using this))
  rw [lb_len] at HT
  have HK := Lib.hid (pvalid_any k)
  have HO := Lib.hid (ok_tags l)
  have HL : Hid ((lb l).length = l.length) := lb_len l
  have hcm := Rs.max hl
  unfold maxLen at hcm
  clear hl hx
  go_enter Try.func37, Try.ntmps37
  go_wp2_with fail
  refine HT.out.mono ?_
  rintro q w1 ⟨v, rfl, hown, hb⟩
  obtain ⟨B, d, rfl, hd⟩ := own_shape (own_row hown)
  have HR := Lib.hid (Ks.Rd.of_own (own_row hown))
  have HB := Lib.hid hb
  have SL := Lib.hid (rd_lb (HS.out.below hb (Nat.le_refl _)))
  obtain ⟨m, hm⟩ : ∃ m, m = tagsV (lb l) := ⟨_, rfl⟩
  obtain ⟨e, he⟩ : ∃ e, e = tagsE (lb l) := ⟨_, rfl⟩
  rw [← hm] at HR hd ⊢
  rw [← he]
  have HM := Lib.hid hm
  have HE := Lib.hid he
  clear hm he hown hb
  go_wp2_with fail
  refine (HK.out _).mono ?_
  rintro q w2 ⟨rfl, rfl⟩
  by_cases hk : keyOk k
  case neg =>
    rw [decide_eq_false hk]
    have HF : Hid (false = true ↔ keyOk k ∧ okT l) := ⟨fun h => (by cases h), fun h => absurd h.1 hk⟩
    clear hk
    go_wp2_with fail
    go_ret
    exact ⟨false, rfl, HF.out, HB.out⟩
  rw [decide_eq_true hk]
  have HKO := Lib.hid hk
  clear hk
  by_cases e0 : e = 0
  case neg =>
    have HF : Hid (false = true ↔ keyOk k ∧ okT l) := ⟨fun h => (by cases h), fun h => absurd (by rw [HE.out]; exact (HO.out.1 h.2).1) e0⟩
    have eq0 : (e == 0) = false := by rw [beq_eq_false_iff_ne]; exact e0
    clear e0
    go_wp2_with fail
    go_ret
    exact ⟨false, rfl, HF.out, HB.out⟩
  subst e0
  have ht : tagsL (lb l) = m := by rw [HM.out]; unfold tagsV; rw [if_pos HE.out.symm]
  have hml : m.length ≤ 1000000 := by rw [← ht]; have := tags_len_le (lb l); rw [HL.out] at this; omega
  have HQ := Lib.hid (seq_any B A m (lb l) d c w2 HR.out SL.out hml (by rw [HL.out]; omega))
  rw [HL.out] at HQ
  have HF : Hid ((decide (m = lb l)) = true ↔ keyOk k ∧ okT l) := by
    show _ ↔ _
    rw [decide_eq_true_eq, HO.out, ht]
    exact ⟨fun h => ⟨HKO.out, HE.out.symm, h⟩, fun h => h.2.2⟩
  clear ht
  generalize decide (m = lb l) = z at HQ HF
  go_wp2_with fail
  refine HQ.out.mono ?_
  rintro q w3 ⟨rfl, nq, rfl⟩
  have HB3 : Hid (Below w.heap.size w (w2.drewN nq)) := HB.out.trans (((Only.refl (fun _ => False) w2).drewN nq).below (fun _ h => h.elim) HB.out.size)
  go_wp2_with fail
  go_ret
  exact ⟨z, rfl, HF.out, HB3.out⟩
set_option maxRecDepth 100000 in
theorem pcost_any (k : ByteArray) (vn c vc : Nat) (V A : Option Addr) (l : List ByteArray) (w : World) (hl : Sl w A l c) (hv : vn ≤ 100000) (hn : l.length ≤ 1000) (hx : ∀ t ∈ l, t.size ≤ 1000000) :
    Calls Try.prog 27 #[.string k, .slice V vn vc, .slice A l.length c] w (vPost w (.tuple #[.int .i64 (costV k vn l), .int .i64 (costN k vn l)])) := by
  have HS := Lib.hid hl
  have g2 : (vn : Int) ≤ 100000 := by omega
  have hcap := Rs.max hl
  unfold maxLen at hcap
  unfold vPost
  have HN := Lib.hid (named_any k c A l w hl hn hx)
  clear hl hx
  obtain ⟨cv, hcv⟩ : ∃ z, z = costV k vn l := ⟨_, rfl⟩
  obtain ⟨cn, hcn⟩ : ∃ z, z = costN k vn l := ⟨_, rfl⟩
  have HC : Hid (cv = costV k vn l ∧ cn = costN k vn l) := ⟨hcv, hcn⟩
  rw [← hcv, ← hcn]
  clear hcv hcn
  go_enter Try.func27, Try.ntmps27
  go_wp2_with fail
  refine HN.out.mono ?_
  rintro q w1 ⟨b, rfl, hbi, hb⟩
  have HB := Lib.hid hb
  have HBI := Lib.hid hbi
  clear hb hbi
  cases b
  case false =>
    have HR : Hid (cv = 0 ∧ cn = 2) := by rw [HC.out.1, HC.out.2]; exact cost_bad (fun g => by have := HBI.out.2 g; cases this)
    go_wp2_with fail
    go_ret2
    exact ⟨(by rw [HR.out.1, HR.out.2]; try rfl), HB.out⟩
  have HG : Hid (keyOk k ∧ okT l) := HBI.out.1 rfl
  by_cases hvn : 65536 < vn
  · have hvI : (vn : Int) > 65536 := by omega
    have HR : Hid (cv = 0 ∧ cn = 5) := by rw [HC.out.1, HC.out.2]; exact cost_long HG.out hvn
    clear hvn
    go_wp2_with fail
    go_ret2
    exact ⟨(by rw [HR.out.1, HR.out.2]; try rfl), HB.out⟩
  have hvI : ¬ (vn : Int) > 65536 := by omega
  have HR : Hid (cv = 64 + (k.size : Int) + (vn : Int) + (sumT l l.length : Int) ∧ cn = 0) := by rw [HC.out.1, HC.out.2]; exact cost_good HG.out (by omega)
  have hk250 : k.size ≤ 250 := HG.out.1.2
  have g1 : (k.size : Int) ≤ 250 := by omega
  have hl16 : l.length ≤ 16 := HG.out.2.1
  have hgl : Hid (good l l.length) := HG.out.2.2
  clear hvn
  go_wp2_with fail
  go_loopw [8, 10, 28] (fun s _ i wr => ∃ K : Nat, K ≤ l.length ∧ i = .int .i64 (K : Int) ∧ s = .int .i64 (64 + (k.size : Int) + (vn : Int) + (sumT l K : Int)) ∧ wr = w1) (fun _ _ i _ => l.length - (intOf i).toNat)
  case atStart => exact ⟨0, Nat.zero_le _, rfl, by simp [sumT], rfl⟩
  case round =>
    obtain ⟨K, hK, rfl, rfl, rfl⟩ := hrel
    have hsum := sumT_le hK (fun i hi _ => hgl.out i hi hi)
    obtain ⟨sk, hsk⟩ : ∃ z, z = sumT l K := ⟨_, rfl⟩
    have HSK := Lib.hid hsk
    rw [← hsk] at hsum ⊢
    clear hsk
    by_cases hlt : K < l.length
    · have j1 : (K : Int) < (l.length : Int) := by omega
      obtain ⟨b, o, rfl, lb, a0⟩ := (HS.out.below HB.out (Nat.le_refl _)).at_ hlt
      obtain ⟨t, ht⟩ : ∃ t, t = l[K] := ⟨_, rfl⟩
      have HT := Lib.hid ht
      have hts : t.size ≤ 64 := by rw [ht]; exact (hgl.out K hlt hlt).1.2
      rw [← ht] at a0
      clear ht
      go_wp2_with fail
      go_roundw
      case rel => exact ⟨K + 1, by omega, by go_num, by rw [sumT_succ hlt, ← HSK.out, ← HT.out]; go_num, trivial⟩
      case measure => simp [intOf]; omega
    · obtain rfl : K = l.length := by omega
      have hnn : ¬ (l.length : Int) < l.length := by omega
      clear hlt
      go_wp2_with fail
      go_ret2
      exact ⟨(by rw [HR.out.1, HR.out.2, HSK.out]; try rfl), HB.out⟩
end Go.Proofs.Ytocfinhbocjbgaa.Je
