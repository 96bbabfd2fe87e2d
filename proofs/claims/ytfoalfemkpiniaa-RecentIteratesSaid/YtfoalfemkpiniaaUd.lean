/- Proves that the function value of slices.Values over a list of numbers that lies in blocks of its own is an iterator over the list. Conditions: as each theorem names them. -/
import Derived.Test.YtfoalfemkpiniaaUc
namespace Go.Proofs.Ytfoalfemkpiniaa.Ud
open Go.RowKit Go.Shelf Ap Mi Nw Ua Ub Uc
attribute [local go_sem] Oper.semAt_some

/-- A slice that reads as L, in blocks from n1 up to n0. -/
def Lay (n1 n0 : Nat) (w : World) (A : Option Addr) (L : List Int) (c : Nat) : Prop := Li w A L c ∧ ∀ a, A = some a → n1 ≤ a.block ∧ a.block < n0
theorem Lay.keep {n1 n0 : Nat} {w w' : World} {A : Option Addr} {L : List Int} {c : Nat} (h : Lay n1 n0 w A L c) (k : Keep n1 n0 w w') : Lay n1 n0 w' A L c :=
  ⟨h.1.only k (fun a ha hn => hn (h.2 a ha)), h.2⟩
set_option maxRecDepth 100000 in
set_option maxHeartbeats 2000000 in
theorem vals_in {n : Nat} (hn : 1 ≤ n) {l Bs n1 n0 : Nat} {A : Option Addr} {L : List Int} {c : Nat} (hL : L.length ≤ 2000000) {J Jx : List Int → World → Prop}
    (hY : ∀ pre x W, J pre W → pre.length < L.length → YieldAt Fence.wide (n - 1) Try.prog l #[.int .i64 x] W fun e W' =>
      (e = .returned (.bool true) ∧ J (pre ++ [x]) W' ∧ Keep n1 n0 W W') ∨ (e = .returned (.bool false) ∧ Jx (pre ++ [x]) W'))
    {W : World} (hBs : W.cell? ⟨Bs, 0, none⟩ = some (.slice A L.length c)) (hA : Lay n1 n0 W A L c) (h0 : J [] W) :
    CallsIn Fence.wide n Try.prog 43 #[.func (.yield l) #[] #[], .pointer (some ⟨Bs, 0, none⟩)] W fun e W' => (∃ v, e = .returned v) ∧ ((∃ ys, ys = L ∧ J ys W') ∨ (∃ pre, pre <+: L ∧ Jx pre W')) := by
  have hcap := Rs.max hA.1
  have hreach : (L.length : Int) ≤ 2000000 := by omega
  refine callsIn_of_wp Try.func43 rfl trivial ?_ rfl
  simp only [Try.ntmps43, List.size_toArray, List.length_cons, List.length_nil, Nat.reduceAdd, Nat.reduceSub, Array.replicate_succ, Array.replicate_zero, List.push_toArray, List.append_toArray, List.nil_append, List.cons_append]
  gi_wp2
  gi_loopw [7] (fun i wr => ∃ k : Nat, k ≤ L.length ∧ i = .int .i64 k ∧ J (L.take k) wr ∧ Lay n1 n0 wr A L c) (fun i _ => L.length - (intOf i).toNat)
  case atStart => exact ⟨0, Nat.zero_le _, rfl, h0, hA⟩
  case round =>
    obtain ⟨k, hk, rfl, hJs, hA'⟩ := hrel
    have HA' := Lib.hid hA'
    by_cases hlt : k < L.length
    · obtain ⟨b, o, rfl, lb, hc⟩ := hA'.1.at_ hlt
      have htk : L.take k ++ [L[k]] = L.take (k + 1) := (List.take_succ_eq_append_getElem hlt).symm
      obtain ⟨x, hx⟩ : ∃ x, x = L[k] := ⟨_, rfl⟩
      rw [← hx] at hc htk
      clear hx hA'
      obtain ⟨fn, tmps, assign, body, hy, hR⟩ := hY _ x wr hJs (by rw [List.length_take]; omega)
      gi_wp2
      refine hR.mono ?_
      rintro e W3 (⟨rfl, hJ3, hk3⟩ | ⟨rfl, hJx3⟩)
      · gi_wp2
        go_roundw
        case rel => exact ⟨k + 1, by omega, by simp, by rw [← htk]; exact hJ3, HA'.out.keep hk3⟩
        case measure => simp [intOf]; omega
      · gi_wp2
        refine bodyPost_ret (results_none rfl _ _ _) rfl ?_
        exact ⟨⟨_, rfl⟩, .inr ⟨L.take (k + 1), List.take_prefix _ _, by rw [← htk]; exact hJx3⟩⟩
    · obtain rfl : k = L.length := by omega
      gi_wp2
      go_end0
      exact ⟨⟨_, rfl⟩, .inl ⟨_, List.take_of_length_le (Nat.le_refl _), hJs⟩⟩
theorem vals_seq {n1 n0 : Nat} {w : World} {A : Option Addr} {L : List Int} {c Bs : Nat} (h1 : n1 ≤ n0) (h2 : n0 ≤ w.heap.size) (hb : n1 ≤ Bs ∧ Bs < n0) (hL : L.length ≤ 2000000)
    (hBs : w.cell? ⟨Bs, 0, none⟩ = some (.slice A L.length c)) (hA : Lay n1 n0 w A L c) :
    IsSeq n1 n0 w (.func (.func 43) #[] #[.pointer (some ⟨Bs, 0, none⟩)]) L := by
  refine ⟨h1, h2, _, _, rfl, enters_of Try.func43 (by kernel_rfl) rfl, fun w' n k hn => ?_⟩
  intro l J Jx W hW _ _ hY h0
  have kW : Keep n1 n0 w W := k.trans (Keep.of_below hW (Nat.le_trans h2 k.size))
  exact vals_in (by omega) hL hY ((Only.cell kW (a := ⟨Bs, 0, none⟩) (by show Bs < _; omega) (fun hn => hn hb)).trans hBs) (hA.keep kW) h0
end Go.Proofs.Ytfoalfemkpiniaa.Ud
