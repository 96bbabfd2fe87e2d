/- Proves what the specification's Segments returns. Condition: at most 600 bytes. -/
import Derived.Test.YtjieiakgikhofaaDoorKf
import Derived.RegionTactic
import Derived.BigRegion
namespace Go.Proofs.YtjieiakgikhofaaDoor.Kg
open Go.RowKit Km Kt Kv Kl Ap Kx Ky Kr Ks Kf

theorem segs_last (s : Bs) : ∃ L x, segs s = L ++ [x] := by
  have := segs_ne s
  exact ⟨(segs s).dropLast, (segs s).getLast this, (List.dropLast_concat_getLast this).symm⟩
theorem segs_small (s : Bs) : ∀ x ∈ segs s, x.length ≤ s.length := by
  induction s with
  | nil => simp [segs]
  | cons c l ih =>
    unfold segs
    split
    · intro x hx
      rcases List.mem_cons.1 hx with rfl | hx
      · simp
      · have := ih x hx; simp; omega
    · match hs : segs l with
      | [] => exact absurd hs (segs_ne l)
      | y :: r =>
        rw [hs] at ih
        intro x hx
        rcases List.mem_cons.1 hx with rfl | hx
        · have := ih y (by simp); simp; omega
        · have := ih x (by simp [hx]); simp; omega
theorem take_snoc (s : ByteArray) (k : Nat) (h : k < s.size) : s.data.toList.take (k + 1) = s.data.toList.take k ++ [s[k]] := by
  rw [List.take_succ_eq_append_getElem (by rw [len_eq]; exact h)]; rfl
theorem segs_step_slash {s : ByteArray} {k : Nat} {L : List Bs} {x : Bs} (h : k < s.size) (hc : s[k] = 47) (hs : segs (s.data.toList.take k) = L ++ [x]) : segs (s.data.toList.take (k + 1)) = (L ++ [x]) ++ [[]] := by
  rw [take_snoc s k h, hc, segs_slash, hs]
theorem segs_step_other {s : ByteArray} {k : Nat} {L : List Bs} {x : Bs} (h : k < s.size) (hc : s[k] ≠ 47) (hs : segs (s.data.toList.take k) = L ++ [x]) : segs (s.data.toList.take (k + 1)) = L ++ [x ++ [s[k]]] := by
  rw [take_snoc s k h, segs_other _ _ hc, hs, snocH_append]
theorem own_some {B : Nat} {w : World} {v : Value} {L : List Bs} {x : Bs} (h : Own B w v (L ++ [x])) : ∃ g cap, v = .slice (some ⟨g, 0, none⟩) (L.length + 1) cap ∧ B ≤ g ∧ w.cell? ⟨g, L.length, none⟩ = some (.string ⟨x.toArray⟩) ∧ w.frozen? ⟨g, L.length, none⟩ = false ∧ L.length + 1 ≤ cap := by
  rcases h.2 with ⟨_, h1⟩ | ⟨g, cap, cur, hv, hB, hg, hc, _⟩
  · simp at h1
  · have hv' : v = .slice (some ⟨g, 0, none⟩) (L.length + 1) cap := by rw [hv]; simp
    subst hv'
    have hrow := own_row h
    have hc1 := World.ownsRow.cellAt (n := (L ++ [x]).length) (by simpa using hrow) L.length (by simp)
    have hc2 := World.ownsRow.frozenAt (n := (L ++ [x]).length) (by simpa using hrow) L.length
    refine ⟨g, cap, rfl, hB, ?_, hc2, by simpa using hc⟩
    rw [hc1]; simp [strV]
theorem own_set {B g cap : Nat} {w : World} {L : List Bs} {x : Bs} (y : Bs) (h : Own B w (.slice (some ⟨g, 0, none⟩) (L.length + 1) cap) (L ++ [x])) :
    Own B (w.setCell ⟨g, L.length, none⟩ (.string ⟨y.toArray⟩)) (.slice (some ⟨g, 0, none⟩) (L.length + 1) cap) (L ++ [y]) := by
  have hrow := own_row h
  have h1 := (World.ownsRow.stored (n := (L ++ [x]).length) (by simpa using hrow) L.length (strV y)).1
  unfold Own
  have e : (L.map strV ++ [strV x]).set L.length (strV y) = (L ++ [y]).map strV := by
    rw [List.set_append_right _ _ (by simp)]; simp
  have h2 : (w.setCell ⟨g, L.length, none⟩ (strV y)).ownsRow B 9 1 (.slice (some ⟨g, 0, none⟩) (L ++ [x]).length cap) (L ++ [x]).length ((L.map strV ++ [strV x]).set L.length (strV y)) := by simpa using h1
  rw [e, show (L ++ [x]).length = L.length + 1 from by simp] at h2
  rw [show (L ++ [y]).length = L.length + 1 from by simp]
  exact h2

set_option maxRecDepth 100000 in
set_option maxHeartbeats 1000000 in
theorem rsegments_any (s : ByteArray) (w : World) (hz : s.size ≤ 600) :
    Calls Tryd.prog 24 #[.string s] w (rstrsPost w (segs s.data.toList)) := by
  have hst : Own w.heap.size (w.alloc (.cells #[.string ⟨#[]⟩] 9)) (.slice (some ⟨w.heap.size, 0, none⟩) 1 1) ([] ++ [[]]) := by
    have := World.ownsRow_lit (base := w.heap.size) (e := 9) (size := 1) w #[.string ⟨#[]⟩] 1 (Nat.le_refl _) (by unfold maxLen; omega) rfl
    exact this
  have HST := Lib.hid hst; clear hst
  go_enter Tryd.func24, Tryd.ntmps24
  go_wp2_with fail
  go_loopw [3, 4] (fun v i wr => ∃ (k : Nat) (L : List Bs) (x : Bs), k ≤ s.size ∧ i = .int .i64 k ∧ segs (s.data.toList.take k) = L ++ [x] ∧ Own w.heap.size wr v (L ++ [x]) ∧ Below w.heap.size w wr) (fun _ i _ => s.size - (intOf i).toNat)
  case atStart => exact ⟨0, [], [], Nat.zero_le _, rfl, rfl, HST.out, (Below.refl _ _).alloc (Nat.le_refl _) _⟩
  case round =>
    obtain ⟨k, L, x, hk, rfl, hs, hown, hbel⟩ := hrel
    have hlen : L.length + 1 ≤ 601 := by
      have e := congrArg List.length hs
      rw [segs_len, List.length_append] at e
      have := List.count_le_length (a := (47 : UInt8)) (l := s.data.toList.take k)
      have := List.length_take_le k s.data.toList
      simp at e
      omega
    have hx : x.length ≤ 600 := by
      have := segs_small (s.data.toList.take k) x (by rw [hs]; simp)
      have := List.length_take_le k s.data.toList
      omega
    have hsz := hbel.size
    have HS := Lib.hid hs; clear hs
    obtain ⟨g, cap, rfl, hBg, hcell, hfro, hcap⟩ := own_some hown
    have HO := Lib.hid hown; clear hown
    have HB := Lib.hid hbel; clear hbel
    by_cases hlt : k < s.size
    · have i1 : (k : Int) < s.size := by omega
      by_cases hc : s[k] = 47
      · have HF := Lib.hid (segs_step_slash hlt hc HS.out)
        have hbe : (((s[k].toNat : Nat) : Int) == 47) = true := by rw [hc]; rfl
        clear hc hcell hfro
        have hrow : wr.ownsRow w.heap.size 9 1 (.slice (some ⟨g, 0, none⟩) (L.length + 1) cap) (L.length + 1) ((L ++ [x]).map strV) := by simpa using own_row HO.out
        have HR := Lib.hid hrow; clear hrow
        go_wp2_with (refine wpList_app rfl _ _ elS rfl rfl HR.out #[.string ⟨#[]⟩] rfl (by simp; rfl) (by omega) (by simp) hsz ?_)
        intro v' w2 h1' h2'
        have H1 : Hid (Own w.heap.size w2 v' ((L ++ [x]) ++ [[]])) := by
          show Own _ _ _ _
          unfold Own
          have e1 : ((L ++ [x]) ++ [[]]).length = L.length + 1 + 1 := by simp
          have e2 : ((L ++ [x]) ++ [[]]).map strV = L.map strV ++ [strV x, .string ⟨#[]⟩] := by simp [strV]
          rw [e1, e2]
          exact h1'
        have HB2 := Lib.hid (HB.out.trans (grown_below HR.out h2' hsz))
        clear h1' h2' hsz
        go_wp2_with fail
        go_roundw
        case rel => exact ⟨k + 1, _, _, by omega, by go_num, HF.out, H1.out, HB2.out⟩
        case measure => simp [intOf]; omega
      · have HF := Lib.hid (segs_step_other hlt hc HS.out)
        have hbe : (((s[k].toNat : Nat) : Int) == 47) = false := by
          rw [beq_eq_false_iff_ne]; intro e; exact hc (UInt8.toNat_inj.1 (by have : (47 : UInt8).toNat = 47 := rfl; omega))
        clear hc
        go_wp2_with fail
        go_region
        have ev : Value.string (⟨x.toArray⟩ ++ s.extract k (k + 1)) = .string ⟨(x ++ [s[k]]).toArray⟩ := str_of (by rw [app_data, one_data s k hlt])
        have EV := Lib.hid ev; clear ev
        clear hcell hfro
        go_wp2_with fail
        go_roundw
        case rel => exact ⟨k + 1, L, x ++ [s[k]], by omega, by go_num, HF.out, by rw [EV.out]; exact own_set _ HO.out, by exact ((HB.out.setCell (p := ⟨g, L.length, none⟩) hBg _).drew)⟩
        case measure => simp [intOf]; omega
    · obtain rfl : k = s.size := by omega
      have hnn : ¬ (s.size : Int) < s.size := by omega
      go_wp2_with fail
      go_ret
      have e : s.data.toList.take s.size = s.data.toList := List.take_of_length_le (by simp)
      have e' := HS.out
      rw [e] at e'
      exact ⟨_, ret_v rfl, by rw [e']; exact HO.out, HB.out⟩
end Go.Proofs.YtjieiakgikhofaaDoor.Kg
