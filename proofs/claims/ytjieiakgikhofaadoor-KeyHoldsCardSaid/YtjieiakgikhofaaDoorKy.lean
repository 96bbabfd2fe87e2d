/- Proves what Parse returns, over the translated program. Conditions: the table of digits is laid; the length is below the form's own bound. -/
import Derived.Test.YtjieiakgikhofaaDoorKx
namespace Go.Proofs.YtjieiakgikhofaaDoor.Ky
open Go.RowKit Km Kt Kv Kl Ap Kx

theorem len_own {B : Nat} {e : TypeId} {v : Value} {n : Nat} {xs : List Value} {w : World} (t ty : TypeId) {el : TypeId} (ht : Tryd.prog.underlying t = some (.slice el)) (hown : w.ownsRow B e 1 v n xs) (W : World) :
    (Builtin.len_ #[t] ty #[v]).run Tryd.prog W = .ok (.int .i64 (n : Int)) W := by
  rcases hown.2 with ⟨rfl, rfl⟩ | ⟨g, cap, cur, rfl, _⟩
  · simp [Builtin.len_, run_underlying ht]; rfl
  · simp [Builtin.len_, run_underlying ht]; rfl
def strLen : Value → Nat
  | .string s => s.size
  | _ => 0
def parseR (s : ByteArray) : List UInt8 := match parseV s.data.toList with | some x => x | none => []
def parseE (s : ByteArray) : Int := match parseV s.data.toList with | some _ => 0 | none => 6
def parsePost (w : World) (s : ByteArray) : Ending → World → Prop := fun e w' => e = .returned (.tuple #[strV (parseR s), .int .i64 (parseE s)]) ∧ Below w.heap.size w w'
theorem parse_none {s : ByteArray} (h : parseV s.data.toList = none) : parseR s = [] ∧ parseE s = 6 := by unfold parseR parseE; rw [h]; exact ⟨rfl, rfl⟩
theorem parse_some {s : ByteArray} {x : List UInt8} (h : parseV s.data.toList = some x) : parseR s = x ∧ parseE s = 0 := by unfold parseR parseE; rw [h]; exact ⟨rfl, rfl⟩
/-- After some rounds: what is read, what is left. -/
def Read (s r : ByteArray) (acc : List UInt8) : Prop := scan s.data.toList = (scan r.data.toList).map (acc ++ ·) ∧ r.size ≤ s.size ∧ acc.length ≤ 250
theorem Read.miss {s r : ByteArray} {acc : List UInt8} (h : Read s r acc) (hq : s.data.toList ≠ [34, 34]) (hr : 0 < r.size) (ht : takeL r.data.toList = none) : parseV s.data.toList = none := by
  have hne : r.data.toList ≠ [] := by intro e; have := len_eq r; rw [e] at this; simp at this; omega
  unfold parseV
  rw [if_neg hq, h.1, scan_miss hne ht]; rfl
theorem Read.full {s r : ByteArray} {acc : List UInt8} {x : UInt8} {t : List UInt8} (h : Read s r acc) (hq : s.data.toList ≠ [34, 34]) (ht : takeL r.data.toList = some (x, t)) (hl : acc.length = 250) : parseV s.data.toList = none := by
  unfold parseV
  rw [if_neg hq, h.1, scan_hit ht]
  match scan t with
  | none => rfl
  | some y => simp only [Option.map_some]; rw [if_pos]; right; simp; omega
theorem Read.hit {s r : ByteArray} {acc : List UInt8} {x : UInt8} {t : List UInt8} (h : Read s r acc) (ht : takeL r.data.toList = some (x, t)) (hl : acc.length ≠ 250) : Read s (r.extract (r.size - t.length) r.size) (acc ++ [x]) := by
  have hlt := takeL_lt ht
  rw [len_eq] at hlt
  have e : (r.extract (r.size - t.length) r.size).data.toList = t := by
    rw [Lib.extract_data, List.take_of_length_le (by simp)]
    rcases takeL_some ht with ⟨_, e⟩ | ⟨a, b, e, _⟩
    · have hs : r.size - t.length = 1 := by rw [← len_eq r, e]; simp
      rw [hs, e]; rfl
    · have hs : r.size - t.length = 3 := by rw [← len_eq r, e]; simp; omega
      rw [hs, e]; rfl
  refine ⟨?_, ?_, by simp; have := h.2.2; omega⟩
  · rw [e, h.1, scan_hit ht, Option.map_map]
    congr 1
    funext y; simp
  · have := len_eq (r.extract (r.size - t.length) r.size); rw [e] at this; have := h.2.1; omega
theorem Read.fin {s r : ByteArray} {acc : List UInt8} (h : Read s r acc) (hq : s.data.toList ≠ [34, 34]) (hr : r.size = 0) : parseV s.data.toList = if acc = [] then none else some acc := by
  have e : r.data.toList = [] := List.eq_nil_of_length_eq_zero (by rw [len_eq]; exact hr)
  unfold parseV
  rw [if_neg hq, h.1, e, scan_nil]
  have := h.2.2
  simp only [Option.map_some, List.append_nil]
  by_cases ha : acc = []
  · rw [if_pos (Or.inl ha), if_pos ha]
  · rw [if_neg (by rintro (h' | h'); exact ha h'; omega), if_neg ha]

set_option maxRecDepth 100000 in
set_option maxHeartbeats 400000 in
theorem parse_any (s : ByteArray) (w : World) (he : Env w) (hs : s.size ≤ maxLen) :
    Calls Tryd.prog 36 #[.string s] w (parsePost w s) := by
  have hs' := hs
  unfold maxLen at hs
  by_cases hq : s.data.toList = [34, 34]
  · have hv : parseV s.data.toList = some [] := by unfold parseV; rw [if_pos hq]
    have HV := Lib.hid (parse_some hv)
    have hb : (s.toList == [34, 34]) = true := by rw [Lib.toList_data, hq]; rfl
    clear hv hq
    go_enter Tryd.func36, Tryd.ntmps36
    go_wp2_with fail
    go_ret2
    exact ⟨by rw [HV.out.1, HV.out.2]; rfl, Below.refl _ _⟩
  · have hb : (s.toList == [34, 34]) = false := by rw [Lib.toList_data, beq_eq_false_iff_ne]; exact hq
    have HQ := Lib.hid hq; clear hq
    go_enter Tryd.func36, Tryd.ntmps36
    go_wp2_with fail
    go_loopw [0, 4, 5, 6] (fun v0 v _ _ wr => ∃ (r : ByteArray) (acc : List UInt8), v0 = .string r ∧ wr.ownsRow w.heap.size 5 1 v acc.length (acc.map byteV) ∧ Below w.heap.size w wr ∧ Read s r acc) (fun v0 _ _ _ _ => strLen v0)
    case atStart => exact ⟨s, [], rfl, World.ownsRow_nil _ _ _ _, Below.refl _ _, ⟨by cases scan s.data.toList <;> rfl, Nat.le_refl _, by simp⟩⟩
    case round =>
      obtain ⟨r, acc, rfl, hown, hbel, hread⟩ := hrel
      have HO := Lib.hid hown; clear hown
      have hrs := hread.2.1
      have hal := hread.2.2
      have HR := Lib.hid hread; clear hread
      have hsz := hbel.size
      have HN := Lib.hid (len_own 48 3 Tryd.underlying48 HO.out)
      by_cases hr : 0 < r.size
      · match ht : takeL r.data.toList with
        | none =>
          have HT := Lib.hid ht; clear ht
          have HW := Lib.hid (take_miss r wr (he.below hbel (Nat.le_refl _)) (Nat.le_trans hrs hs') hr HT.out)
          have HV := Lib.hid (parse_none (HR.out.miss HQ.out hr HT.out))
          have HB := Lib.hid hbel; clear hbel
          clear hs'
          go_wp2_with fail
          refine HW.out.mono ?_
          rintro e w1 ⟨rfl, m, rfl⟩
          go_wp2_with fail
          go_ret2
          exact ⟨by rw [HV.out.1, HV.out.2]; rfl, ⟨HB.out.os, HB.out.tape, HB.out.output, HB.out.size, HB.out.block⟩⟩
        | some (x, t) =>
          have HT := Lib.hid ht; clear ht
          have hlt := takeL_lt HT.out
          rw [len_eq] at hlt
          have HW := Lib.hid (take_hit r wr (he.below hbel (Nat.le_refl _)) (Nat.le_trans hrs hs') HT.out)
          obtain ⟨n, hn⟩ : ∃ n, n = r.size - t.length := ⟨_, rfl⟩
          rw [← hn] at HW
          have n1 : 0 < n := by omega
          have n2 : n ≤ r.size := by omega
          have hn0 : (((n : Nat) : Int) == 0) = false := by rw [beq_eq_false_iff_ne]; omega
          have HNN := Lib.hid hn; clear hn
          have HB := Lib.hid hbel; clear hbel
          have hx := x.toNat_lt
          clear hs'
          by_cases h250 : acc.length = 250
          · have hl := fun W => HN.out W
            rw [h250] at hl
            have HV := Lib.hid (parse_none (HR.out.full HQ.out HT.out h250))
            have H250 := Lib.hid h250; clear h250
            go_wp2_with fail
            refine HW.out.mono ?_
            rintro e w1 ⟨rfl, m, rfl⟩
            go_wp2_with fail
            go_ret2
            exact ⟨by rw [HV.out.1, HV.out.2]; rfl, ⟨HB.out.os, HB.out.tape, HB.out.output, HB.out.size, HB.out.block⟩⟩
          · have hl := HN.out
            have hb250 : ((acc.length : Int) == 250) = false := by rw [beq_eq_false_iff_ne]; omega
            have HR' := HR.out.hit HT.out h250
            rw [← HNN.out] at HR'
            have HRR := Lib.hid HR'; clear HR'
            clear h250
            go_wp2_with fail
            refine HW.out.mono ?_
            rintro e w1 ⟨rfl, m, rfl⟩
            go_wp2_with (refine wpList_app rfl _ _ elB rfl rfl (own_drewN HO.out m) #[byteV x] rfl (by simp [byteV]; rfl) (by omega) (by simp) hsz ?_)
            intro v' w2 h1 h2
            have H1 := Lib.hid h1; clear h1
            have HB2 := Lib.hid ((below_drewN HB.out m).trans (grown_below (own_drewN HO.out m) h2 hsz)); clear h2 hsz
            clear hl
            go_wp2_with fail
            go_roundw
            case rel => exact ⟨_, acc ++ [x], rfl, by rw [List.length_append, List.map_append]; exact H1.out, HB2.out, HRR.out⟩
            case measure => simp [strLen, ByteArray.size_extract]; omega
      · have h0 : r.size = 0 := by omega
        have HV0 := HR.out.fin HQ.out h0
        have hl := HN.out
        have HB := Lib.hid hbel; clear hbel
        have hnn : ¬ (0 : Int) < r.size := by omega
        have H0 := Lib.hid h0; clear h0
        by_cases ha : acc = []
        · subst ha
          rw [if_pos rfl] at HV0
          have HV := Lib.hid (parse_none HV0)
          clear HV0 hr
          go_wp2_with fail
          go_ret2
          exact ⟨by rw [HV.out.1, HV.out.2]; rfl, HB.out⟩
        · rw [if_neg ha] at HV0
          have HV := Lib.hid (parse_some HV0)
          have hb0 : ((acc.length : Int) == 0) = false := by rw [beq_eq_false_iff_ne]; intro e; exact ha (List.eq_nil_of_length_eq_zero (by omega))
          have hc := conv_own HO.out
          clear HV0 hr ha
          go_wp2_with fail
          go_ret2
          exact ⟨by rw [HV.out.1, HV.out.2]; rfl, HB.out⟩
end Go.Proofs.YtjieiakgikhofaaDoor.Ky
