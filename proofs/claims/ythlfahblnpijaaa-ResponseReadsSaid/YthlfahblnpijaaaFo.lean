/- Proves what the rows of package frame's laws give the walks: arguments that are frames, and lists of frames, opened. No condition. -/
import Derived.Test.YthlfahblnpijaaaVe
import Derived.Lib.SmallJoins
namespace Go.Proofs.Ythlfahblnpijaaa.Fo
open Go.ChangeShapes Go.WideShapes Go.ChangeAt Go.RowKit Go.Joins Vm Vw Ve

theorem cellsS : Try.prog.cellsOf 36 = 1 := by kernel_rfl
theorem cellsF : Try.prog.cellsOf 38 = 2 := by kernel_rfl
/-- A frame as it stands in memory: its code, its payload with its address and capacity. -/
structure Frm where
  c : UInt8
  A : Option Addr
  k : Nat
  p : Bs
def Rf (w : World) (A : Option Addr) (l : List Frm) : Prop :=
  0 < l.length → ∃ b o, A = some ⟨b, o, none⟩ ∧ b < w.heap.size ∧ ∀ j (h : j < l.length), w.cell? ⟨b, o + j * 2, none⟩ = some (.int .u8 (l[j].c.toNat : Int)) ∧ w.cell? ⟨b, o + j * 2 + 1, none⟩ = some (.slice l[j].A l[j].p.length l[j].k)
/-- What an argument of frames gives. -/
structure Frms (W : World) (A : Option Addr) (l : List Frm) (c : Nat) : Prop where
  rd : Rf W A l
  le : l.length ≤ c
  max : c ≤ maxLen
  one : ∀ x ∈ l, Arg W x.A x.p x.k
section
variable {H : Type} {enc : TypeId × Value → H} {W : World}
theorem byte_at {base fuel : Nat} {spare : Nat → Bool} {held : Bool} {v : Value} {x : DataW H × List MemPlace} (h : DataW.trod enc Try.prog W base spare held fuel 5 [v] = some x) : ∃ c : UInt8, v = .int .u8 (c.toNat : Int) := by
  obtain ⟨n, hn, _, hw⟩ := DataW.trod_int Try.underlying5 h
  injection hn with hn
  obtain ⟨b0, b1⟩ := wf_u8 hw
  obtain ⟨k, rfl⟩ := Int.eq_ofNat_of_zero_le b0
  exact ⟨UInt8.ofNat k, by rw [hn, of_nat (by omega)]⟩
set_option maxRecDepth 100000 in
theorem open_frame {base : Nat} {v : Value} {d : DataW H} {p : List MemPlace} (hval : Value.okWide Try.prog W .any base 38 v)
    (h : DataW.Trod enc Try.prog W 0 (fun _ => true) true 38 v d p) : ∃ (c : UInt8) (A : Option Addr) (k : Nat) (l : Bs), v = .agg #[.int .u8 (c.toNat : Int), .slice A l.length k] ∧ Arg W A l k := by
  obtain ⟨v0, v1, y0, y1, n, rfl, _, _, t0, t1⟩ := open_agg2 Try.underlying38 (by kernel_rfl) cellsF hval h
  obtain ⟨c, rfl⟩ := byte_at t0
  obtain ⟨A, k, l, rfl, g⟩ := arg_of t1
  exact ⟨c, A, k, l, rfl, g⟩
set_option maxRecDepth 100000 in
theorem open_frames {base : Nat} {v : Value} {d : DataW H} {p : List MemPlace} (hval : Value.okWide Try.prog W .any base 56 v)
    (h : DataW.Trod enc Try.prog W 0 (fun _ => true) true 56 v d p) : ∃ (A : Option Addr) (c : Nat) (l : List Frm), v = .slice A l.length c ∧ Frms W A l c := by
  obtain ⟨a0, len, cap, rfl⟩ := okWide_slice Try.underlying56 hval
  obtain ⟨fuel, hf⟩ := h
  have hf' : DataW.trod enc Try.prog W 0 (fun _ => true) true fuel 56 [.slice a0 len cap] = some (d, p) := by simpa [Value.cells] using hf
  rcases Deep.open_slice_pairs Try.underlying56 Try.underlying38 cellsF rfl rfl cellsB cellsS hf' with ⟨hcs, _⟩ | ⟨a, len', cap', m, n, V0, V1, D0, D1, P0, P1, hcs, _, hl, hm, hmm, _, hx⟩
  · injection hcs with hcs
    rw [hcs]
    exact ⟨none, 0, [], rfl, fun h => by simp at h, Nat.le_refl _, Nat.zero_le _, by simp⟩
  · injection hcs with hcs
    simp only [Value.slice.injEq] at hcs
    obtain ⟨rfl, rfl, rfl⟩ := hcs
    simp only [if_true] at hmm
    subst hmm
    have key : ∀ i, i < m → ∃ y : Frm, W.cell? (a.add (i * 2)) = some (.int .u8 (y.c.toNat : Int)) ∧ W.cell? (a.add (i * 2 + 1)) = some (.slice y.A y.p.length y.k) ∧ Arg W y.A y.p y.k := by
      intro i hi
      obtain ⟨c0, c1, t0, t1⟩ := hx i hi
      obtain ⟨n0, e0⟩ := byte_at t0
      obtain ⟨A1, k1, p1, e1, g1⟩ := arg_of t1
      exact ⟨⟨n0, A1, k1, p1⟩, by rw [c0, e0], by rw [c1, e1], g1⟩
    let f : Nat → Frm := fun i => if h : i < m then (key i h).choose else ⟨0, none, 0, []⟩
    have hf1 : ∀ i (h : i < m), f i = (key i h).choose := fun i h => by simp only [f, dif_pos h]
    have hlen : ((List.range len).map f).length = len := by simp
    refine ⟨some a, m, (List.range len).map f, by rw [hlen], ?_, by rw [hlen]; exact hl, hm, ?_⟩
    · intro h0
      rw [hlen] at h0
      obtain ⟨b, off, spot⟩ := a
      have hspot : spot = none := by simpa [Addr.add] using World.cell?_spot (key 0 (by omega)).choose_spec.1
      subst hspot
      have hlt : b < W.heap.size := by
        have := World.block_lt_of_cell? W _ (key 0 (by omega)).choose_spec.1
        rwa [Vw.add_plain] at this
      refine ⟨b, off, rfl, hlt, fun j hj => ?_⟩
      rw [hlen] at hj
      have hj' : j < m := by omega
      have hs := (key j hj').choose_spec
      simp only [List.getElem_map, List.getElem_range, hf1 j hj']
      exact ⟨by rw [← Vw.add_plain b off (j * 2)]; exact hs.1, by rw [Nat.add_assoc, ← Vw.add_plain b off (j * 2 + 1)]; exact hs.2.1⟩
    · intro x hxm
      obtain ⟨i, hi, rfl⟩ := List.mem_map.1 hxm
      have hi' : i < m := by have := List.mem_range.1 hi; omega
      rw [hf1 i hi']
      exact (key i hi').choose_spec.2.2
end
end Go.Proofs.Ythlfahblnpijaaa.Fo
