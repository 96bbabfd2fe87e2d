/- Proves what the comparison of two lists of strings returns, and the law's small checks; and the words for lists of strings in memory. Conditions: lengths below the form's own bound. -/
import Derived.Test.YtjieiakgikhofaaDoorKr
namespace Go.Proofs.YtjieiakgikhofaaDoor.Ks
open Go.RowKit Km Kt Kv Kl Ap Kx Ky Kr

/-- The slice at A reads as the list l. -/
def Rd (w : World) (A : Option Addr) (l : List Bs) : Prop :=
  0 < l.length → ∃ b o, A = some ⟨b, o, none⟩ ∧ b < w.heap.size ∧ ∀ j (h : j < l.length), w.cell? ⟨b, o + j, none⟩ = some (.string ⟨l[j].toArray⟩)
theorem Rd.nil (w : World) (A : Option Addr) : Rd w A [] := fun h => by simp at h
theorem Rd.below {w w' : World} {A : Option Addr} {l : List Bs} (h : Rd w A l) {B : Nat} (hb : Below B w w') (hB : w.heap.size ≤ B) : Rd w' A l := fun h0 => by
  obtain ⟨b, o, e, hlt, hc⟩ := h h0
  exact ⟨b, o, e, Nat.lt_of_lt_of_le hlt hb.size, fun j hj => by rw [hb.cell (by show b < B; omega)]; exact hc j hj⟩
theorem Rd.drewN {w : World} {A : Option Addr} {l : List Bs} (h : Rd w A l) (n : Nat) : Rd (w.drewN n) A l := h
theorem Rd.at_ {w : World} {A : Option Addr} {l : List Bs} (h : Rd w A l) {k : Nat} (hk : k < l.length) : ∃ b o, A = some ⟨b, o, none⟩ ∧ b < w.heap.size ∧ w.cell? ⟨b, o + k, none⟩ = some (.string ⟨l[k].toArray⟩) := by
  obtain ⟨b, o, e, hlt, hc⟩ := h (by omega)
  exact ⟨b, o, e, hlt, hc k hk⟩
theorem Rd.of_own {B : Nat} {e : TypeId} {w : World} {A : Option Addr} {c : Nat} {l : List Bs} (h : w.ownsRow B e 1 (.slice A l.length c) l.length (l.map strV)) : Rd w A l := fun h0 => by
  rcases h.2 with ⟨_, h1⟩ | ⟨g, cap, cur, hv, _, hg, _, _, _, ht⟩
  · omega
  · have hA : A = some ⟨g, 0, none⟩ := by injection hv
    refine ⟨g, 0, hA, (Array.getElem?_eq_some_iff.1 hg).1, fun j hj => ?_⟩
    rw [Nat.zero_add, cell_of_row w g j cur _ (0, 0) hg]
    have e : (cur.toList.take (l.length * 1))[j]? = (l.map strV)[j]? := by rw [ht]
    rw [List.getElem?_take, if_pos (by omega)] at e
    rw [← Array.getElem?_toList, e, List.getElem?_map, List.getElem?_eq_getElem hj]
    rfl
theorem own_shape {B : Nat} {e : TypeId} {w : World} {v : Value} {n : Nat} {xs : List Value} (h : w.ownsRow B e 1 v n xs) : ∃ A c, v = .slice A n c ∧ n ≤ c := by
  rcases h.2 with ⟨rfl, h1⟩ | ⟨g, cap, cur, rfl, _, _, hc, _⟩
  · exact ⟨none, 0, by rw [h1], by omega⟩
  · exact ⟨_, _, rfl, hc⟩

def samePost (w : World) (l m : List Bs) : Ending → World → Prop := fun e w' => e = .returned (.bool (decide (l = m))) ∧ ∃ n, w' = w.drewN n
theorem take_same {l m : List Bs} {k : Nat} (hl : k < l.length) (hm : k < m.length) (h : l.take k = m.take k) (e : l[k] = m[k]) : l.take (k + 1) = m.take (k + 1) := by
  rw [List.take_succ_eq_append_getElem hl, List.take_succ_eq_append_getElem hm, h, e]

set_option maxRecDepth 100000 in
set_option maxHeartbeats 400000 in
theorem same_any (A B : Option Addr) (l m : List Bs) (c d : Nat) (w : World) (hA : Rd w A l) (hB : Rd w B m) (hl : l.length ≤ 1000000) (hm : m.length ≤ 1000000) :
    Calls Tryd.prog 31 #[.slice A l.length c, .slice B m.length d] w (samePost w l m) := by
  by_cases hlen : l.length = m.length
  · have hb : (((l.length : Nat) : Int) != ((m.length : Nat) : Int)) = false := by rw [hlen]; simp
    have HL := Lib.hid hlen
    have hle : l.length ≤ m.length := by omega
    have hle' : m.length ≤ l.length := by omega
    clear hlen
    go_enter Tryd.func31, Tryd.ntmps31
    go_wp2_with fail
    go_loopw [5] (fun i wr => ∃ k : Nat, k ≤ l.length ∧ i = .int .i64 k ∧ (∃ n, wr = w.drewN n) ∧ l.take k = m.take k) (fun i _ => l.length - (intOf i).toNat)
    case atStart => exact ⟨0, Nat.zero_le _, rfl, ⟨0, rfl⟩, rfl⟩
    case round =>
      obtain ⟨k, hk, rfl, ⟨nw, rfl⟩, hs⟩ := hrel
      have HS := Lib.hid hs; clear hs
      by_cases hlt : k < l.length
      · have hlt2 : k < m.length := by omega
        obtain ⟨b1, o1, rfl, hb1, hc1⟩ := hA.at_ hlt
        obtain ⟨b2, o2, rfl, hb2, hc2⟩ := hB.at_ hlt2
        have i1 : (k : Int) < l.length := by omega
        have i2 : (k : Int) < m.length := by omega
        by_cases hc : l[k] = m[k]
        · have hbe : (!(l[k] == m[k])) = false := by rw [hc]; simp
          have HC := Lib.hid hc; clear hc
          go_wp2_with fail
          go_quiet (fail)
          go_wp2_with fail
          go_roundw
          case rel => exact ⟨k + 1, by omega, by go_num, (by first | exact ⟨_, rfl⟩ | exact ⟨_, by rw [World.drewN_drewN]⟩), take_same hlt hlt2 HS.out HC.out⟩
          case measure => simp [intOf]; omega
        · have hbe : (!(l[k] == m[k])) = true := by simpa using hc
          have HC := Lib.hid hc; clear hc
          go_wp2_with fail
          go_quiet (fail)
          go_wp2_with fail
          go_ret
          refine ⟨ret_b ?_, (by first | exact ⟨_, rfl⟩ | exact ⟨_, by rw [World.drewN_drewN]⟩)⟩
          show false = decide (l = m)
          rw [eq_comm, decide_eq_false_iff_not]
          intro e; subst e; exact HC.out rfl
      · obtain rfl : k = l.length := by omega
        have hnn : ¬ (l.length : Int) < l.length := by omega
        go_wp2_with fail
        go_ret
        refine ⟨ret_b ?_, _, rfl⟩
        show true = decide (l = m)
        have hs := HS.out
        rw [List.take_of_length_le (Nat.le_refl _), List.take_of_length_le hle'] at hs
        rw [eq_comm, decide_eq_true_eq]; exact hs
  · have hb : (((l.length : Nat) : Int) != ((m.length : Nat) : Int)) = true := by rw [bne_iff_ne]; omega
    have HL := Lib.hid hlen; clear hlen
    go_enter Tryd.func31, Tryd.ntmps31
    go_wp2_with fail
    go_ret
    refine ⟨ret_b ?_, 0, rfl⟩
    show false = decide (l = m)
    rw [eq_comm, decide_eq_false_iff_not]
    intro e; subst e; exact HL.out rfl

/-- two errors, as the walk compares them -/
def okL (l m : List Bs) (e no : Int) : Bool := decide (l = m ∧ e = no)
def okS (x y : Bs) (e no : Int) : Bool := decide (x = y ∧ e = no)
theorem okL_iff (l m : List Bs) (e no : Int) : okL l m e no = true ↔ l = m ∧ e = no := by unfold okL; simp
theorem okS_iff (x y : Bs) (e no : Int) : okS x y e no = true ↔ x = y ∧ e = no := by unfold okS; simp
def listPost (w : World) (l m : List Bs) (e no : Int) : Ending → World → Prop := fun r w' => r = .returned (.bool (okL l m e no)) ∧ ∃ n, w' = w.drewN n
set_option maxRecDepth 100000 in
set_option maxHeartbeats 400000 in
theorem list_any (A B : Option Addr) (l m : List Bs) (c d : Nat) (e no : Int) (w : World) (hA : Rd w A l) (hB : Rd w B m) (hl : l.length ≤ 1000000) (hm : m.length ≤ 1000000) :
    Calls Tryd.prog 23 #[.slice A l.length c, .int .i64 e, .slice B m.length d, .int .i64 no] w (listPost w l m e no) := by
  have HS := Lib.hid (same_any A B l m c d w hA hB hl hm)
  by_cases h : l = m
  · have hd : decide (l = m) = true := by simpa using h
    have HH := Lib.hid h; clear h
    have HD := Lib.hid hd; clear hd
    go_enter Tryd.func23, Tryd.ntmps23
    go_wp2_with fail
    refine HS.out.mono ?_
    rintro r w1 ⟨rfl, n, rfl⟩
    rw [HD.out]
    go_wp2_with fail
    go_ret
    refine ⟨ret_b ?_, _, rfl⟩
    show (e == no) = _
    rw [Bool.eq_iff_iff, okL_iff]; simp [HH.out]
  · have hd : decide (l = m) = false := by simpa using h
    have HH := Lib.hid h; clear h
    have HD := Lib.hid hd; clear hd
    go_enter Tryd.func23, Tryd.ntmps23
    go_wp2_with fail
    refine HS.out.mono ?_
    rintro r w1 ⟨rfl, n, rfl⟩
    rw [HD.out]
    go_wp2_with fail
    go_ret
    refine ⟨ret_b ?_, _, rfl⟩
    show false = _
    rw [eq_comm, Bool.eq_false_iff]; exact fun h => HH.out ((okL_iff _ _ _ _).1 h).1
set_option maxRecDepth 100000 in
set_option maxHeartbeats 400000 in
theorem one_any (x y : ByteArray) (e no : Int) (w : World) :
    Calls Tryd.prog 28 #[.string x, .int .i64 e, .string y, .int .i64 no] w fun r w' => r = .returned (.bool (okS x.data.toList y.data.toList e no)) ∧ w = w' := by
  by_cases h : x.data.toList = y.data.toList
  · have hd : (x.toList == y.toList) = true := by rw [Lib.toList_data, Lib.toList_data]; simpa using h
    have hd' : x.toList = y.toList := by rw [Lib.toList_data, Lib.toList_data]; exact h
    have HH := Lib.hid h; clear h
    clear hd'
    go_enter Tryd.func28, Tryd.ntmps28
    go_wp2_with fail
    go_ret
    refine ⟨ret_b ?_, rfl⟩
    show (e == no) = _
    rw [Bool.eq_iff_iff, okS_iff]; simp [HH.out]
  · have hd : (x.toList == y.toList) = false := by rw [Lib.toList_data, Lib.toList_data]; simpa using h
    have HH := Lib.hid h; clear h
    go_enter Tryd.func28, Tryd.ntmps28
    go_wp2_with fail
    go_ret
    refine ⟨ret_b ?_, rfl⟩
    show false = _
    rw [eq_comm, Bool.eq_false_iff]; exact fun h => HH.out ((okS_iff _ _ _ _).1 h).1
def parsesPost (w : World) (s want : ByteArray) (no : Int) : Ending → World → Prop := fun r w' => r = .returned (.bool (okS (parseR s) want.data.toList (parseE s) no)) ∧ Below w.heap.size w w'
set_option maxRecDepth 100000 in
set_option maxHeartbeats 400000 in
theorem parses_any (s want : ByteArray) (no : Int) (w : World) (he : Env w) (hs : s.size ≤ maxLen) :
    Calls Tryd.prog 35 #[.string s, .string want, .int .i64 no] w (parsesPost w s want no) := by
  have HP := Lib.hid (parse_any s w he hs)
  have HO := Lib.hid (fun W => one_any ⟨(parseR s).toArray⟩ want (parseE s) no W)
  go_enter Tryd.func35, Tryd.ntmps35
  go_wp2_with fail
  refine HP.out.mono ?_
  rintro r w1 ⟨rfl, hb⟩
  have HB := Lib.hid hb; clear hb
  go_wp2_with fail
  refine (HO.out _).mono ?_
  rintro r w2 ⟨rfl, rfl⟩
  go_wp2_with fail
  go_ret
  exact ⟨rfl, HB.out⟩
end Go.Proofs.YtjieiakgikhofaaDoor.Ks
