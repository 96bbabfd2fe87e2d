/- Proves what the comparisons of lists of strings and of bytes return: slices.Equal, bytes.Equal, the specification's Same. Conditions: few strings. -/
import Derived.Test.YtefadkdngcbpiaaDoorQe
import Derived.BigQuiet
import Derived.Deep.QuietTactic
namespace Go.Proofs.YtefadkdngcbpiaaDoor.Qx
open Go.RowKit Vm Ap Vw Va Gc Mi Mb Qm Qs Qe

theorem quietL {P : Program} {f : FuncId} {args : Array Value} {w : World} {n : Nat} {v : Value}
    (h : Calls P f args (w.drewN n) fun e w' => e = .returned v ∧ w.drewN n = w') : Calls P f args (w.drewN n) fun e w' => e = .returned v ∧ ∃ m, w' = w.drewN m :=
  h.mono fun _ _ hh => ⟨hh.1, n, hh.2.symm⟩
def samePost (w : World) (l m : List Bs) : Ending → World → Prop := fun e w' => e = .returned (.bool (decide (l = m))) ∧ ∃ n, w' = w.drewN n
theorem quietS {w : World} {n : Nat} {f : FuncId} {args : Array Value} {v : Value} (h : Calls Tryd.prog f args (w.drewN n) fun e w' => e = .returned v ∧ ∃ k, w' = (w.drewN n).drewN k) : Calls Tryd.prog f args (w.drewN n) fun e w' => e = .returned v ∧ ∃ m, w' = w.drewN m :=
  h.mono fun _ _ ⟨h1, k, h2⟩ => ⟨h1, n + k, by rw [h2, World.drewN_drewN]⟩
theorem take_same {l m : List Bs} {k : Nat} (hl : k < l.length) (hm : k < m.length) (h : l.take k = m.take k) (e : l[k] = m[k]) : l.take (k + 1) = m.take (k + 1) := by
  rw [List.take_succ_eq_append_getElem hl, List.take_succ_eq_append_getElem hm, h, e]
theorem map_inj {l m : List Bs} (h : l.map (fun s => (⟨s.toArray⟩ : ByteArray)) = m.map (fun s => (⟨s.toArray⟩ : ByteArray))) : l = m := by
  refine (List.map_inj_right (f := fun s : Bs => (⟨s.toArray⟩ : ByteArray)) ?_).1 h
  intro x y e
  have := congrArg (fun b : ByteArray => b.data.toList) e
  simpa using this
theorem seq_any (A C : Option Addr) (l m : List Bs) (c d : Nat) (w : World) (hA : Rd w A l) (hC : Rd w C m) (hl : l.length ≤ 1000000) (hm : m.length ≤ 1000000) :
    Calls Tryd.prog 37 #[.slice A l.length c, .slice C m.length d] w (samePost w l m) := by
  by_cases hlen : l.length = m.length
  · by_cases h0 : l.length = 0
    · have e1 : l = [] := List.eq_nil_of_length_eq_zero h0
      have e2 : m = [] := List.eq_nil_of_length_eq_zero (by omega)
      subst e1; subst e2
      refine (Tryd.slices_Equal_string_empty A C c 0 d w (by omega)).mono ?_
      rintro e w' ⟨rfl, rfl⟩
      exact ⟨rfl, 0, rfl⟩
    · obtain ⟨b1, o1, rfl, _, c1⟩ := hA (by omega)
      obtain ⟨b2, o2, rfl, _, c2⟩ := hC (by omega)
      refine (Tryd.slices_Equal_string b1 o1 l.length c b2 o2 m.length d (l.map fun s => ⟨s.toArray⟩) (m.map fun s => ⟨s.toArray⟩) w (by simp) (by simp) (by omega) (by omega) ?_ ?_).mono ?_
      · intro j hj
        rw [List.length_map] at hj
        rw [c1 j hj]
        simp [List.getElem?_eq_getElem hj]
      · intro j hj
        rw [List.length_map] at hj
        rw [c2 j hj]
        simp [List.getElem?_eq_getElem hj]
      · rintro e w' ⟨rfl, q, rfl⟩
        refine ⟨ret_b ?_, q, rfl⟩
        rw [List.take_of_length_le (by simp), List.take_of_length_le (by simp), Bool.eq_iff_iff, decide_eq_true_eq, decide_eq_true_eq]
        exact ⟨map_inj, fun h => by rw [h]⟩
  · refine (Tryd.slices_Equal_string_lens A C l.length c m.length d w hlen).mono ?_
    rintro e w' ⟨rfl, rfl⟩
    refine ⟨ret_b ?_, 0, rfl⟩
    rw [eq_comm, decide_eq_false_iff_not]
    intro e; subst e; exact hlen rfl
theorem bequal_any (A C : Option Addr) (l m : Bs) (c d : Nat) (w : World) (hA : Rb w A l) (hC : Rb w C m) :
    Calls Tryd.prog 38 #[.slice A l.length c, .slice C m.length d] w fun e w' => e = .returned (.bool (decide (l = m))) ∧ w = w' := by
  have h1 := conv_str c hA
  have h2 := conv_str d hC
  go_enter Tryd.func38, Tryd.ntmps38
  go_wp2_with fail
  go_ret
  exact ⟨ret_b (by rw [Bool.eq_iff_iff]; simp), rfl⟩
set_option maxRecDepth 100000 in
set_option maxHeartbeats 400000 in
theorem same_any (A B : Option Addr) (l m : List Bs) (c d : Nat) (w : World) (hA : Rd w A l) (hB : Rd w B m) (hl : l.length ≤ 1000000) (hm : m.length ≤ 1000000) :
    Calls Tryd.prog 39 #[.slice A l.length c, .slice B m.length d] w (samePost w l m) := by
  by_cases hlen : l.length = m.length
  · have hb : (((l.length : Nat) : Int) != ((m.length : Nat) : Int)) = false := by rw [hlen]; simp
    have HL := Lib.hid hlen
    have hle : l.length ≤ m.length := by omega
    have hle' : m.length ≤ l.length := by omega
    clear hlen
    go_enter Tryd.func39, Tryd.ntmps39
    go_wp2_with fail
    go_loopw [5] (fun i wr => ∃ k : Nat, k ≤ l.length ∧ i = .int .i64 k ∧ (∃ n, wr = w.drewN n) ∧ l.take k = m.take k) (fun i _ => l.length - (intOf i).toNat)
    case atStart => exact ⟨0, Nat.zero_le _, rfl, ⟨0, rfl⟩, rfl⟩
    case round =>
      obtain ⟨k, hk, rfl, ⟨nw, rfl⟩, hs⟩ := hrel
      have HS := Lib.hid hs; clear hs
      by_cases hlt : k < l.length
      · have hlt2 : k < m.length := by omega
        obtain ⟨b1, o1, rfl, hb1, hc1⟩ := hA.at_ hlt
        obtain ⟨b2, o2, rfl, hb2, hc2⟩ := hB.at_ hlt2
        have i1 : (k : Int) < l.length := by omega
        have i2 : (k : Int) < m.length := by omega
        by_cases hc : l[k] = m[k]
        · have hbe : (!(l[k] == m[k])) = false := by rw [hc]; simp
          have HC := Lib.hid hc; clear hc
          go_wp2_with fail
          go_quiet (fail)
          go_wp2_with fail
          go_roundw
          case rel => exact ⟨k + 1, by omega, by go_num, (by first | exact ⟨_, rfl⟩ | exact ⟨_, by rw [World.drewN_drewN]⟩), take_same hlt hlt2 HS.out HC.out⟩
          case measure => simp [intOf]; omega
        · have hbe : (!(l[k] == m[k])) = true := by simpa using hc
          have HC := Lib.hid hc; clear hc
          go_wp2_with fail
          go_quiet (fail)
          go_wp2_with fail
          go_ret
          refine ⟨ret_b ?_, (by first | exact ⟨_, rfl⟩ | exact ⟨_, by rw [World.drewN_drewN]⟩)⟩
          show false = decide (l = m)
          rw [eq_comm, decide_eq_false_iff_not]
          intro e; subst e; exact HC.out rfl
      · obtain rfl : k = l.length := by omega
        have hnn : ¬ (l.length : Int) < l.length := by omega
        go_wp2_with fail
        go_ret
        refine ⟨ret_b ?_, _, rfl⟩
        show true = decide (l = m)
        have hs := HS.out
        rw [List.take_of_length_le (Nat.le_refl _), List.take_of_length_le hle'] at hs
        rw [eq_comm, decide_eq_true_eq]; exact hs
  · have hb : (((l.length : Nat) : Int) != ((m.length : Nat) : Int)) = true := by rw [bne_iff_ne]; omega
    have HL := Lib.hid hlen; clear hlen
    go_enter Tryd.func39, Tryd.ntmps39
    go_wp2_with fail
    go_ret
    refine ⟨ret_b ?_, 0, rfl⟩
    show false = decide (l = m)
    rw [eq_comm, decide_eq_false_iff_not]
    intro e; subst e; exact HL.out rfl
end Go.Proofs.YtefadkdngcbpiaaDoor.Qx
