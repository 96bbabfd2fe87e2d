/- Proves words for the pieces of a payload in a row of the call's own, and what has returns at a given set of parts. Conditions: few bytes. -/
import Derived.Test.YthlfahblnpijaaaDoorQn
import Derived.Test.YthlfahblnpijaaaDoorFc
namespace Go.Proofs.YthlfahblnpijaaaDoor.Qy
open Go.RowKit Vm Ap Vw Va Vab Gc Mi Mb Qm Qs Qe Qn Fc

theorem has_mask (m i : Nat) (m' p : Int) (b : Bool) (w : World) (hm : m < 512) (hm' : (m : Int) = m') (hi : i < 9) (hp : ((2 ^ i : Nat) : Int) = p) (hb : ((m &&& 2 ^ i : Nat) != 0) = b) :
    Calls Tryd.prog 36 #[.int .u64 m', .int .u64 p] w fun e w' => e = .returned (.bool b) ∧ w = w' := by
  subst hm'
  have h3 : 2 ^ i < 512 := Nat.lt_of_lt_of_le (Nat.pow_lt_pow_right (by omega) hi) (by decide)
  have HA : Hid (bits .and .u64 (m : Int) p = ((m &&& 2 ^ i : Nat) : Int)) := by
    show _ = _
    rw [← hp]; exact u64_and_nat _ _ (by omega) (by omega)
  have H2 := Lib.hid hb
  clear hb
  go_enter Tryd.func36, Tryd.ntmps36
  go_wp2_with fail
  go_ret
  refine ⟨ret_b ?_, rfl⟩
  rw [HA.out, ← H2.out, Bool.eq_iff_iff]
  simp
theorem elmP : Elm Tryd.prog 78 29 (.slice none 0 0) 1 where
  sl := Tryd.underlying78
  info := by kernel_rfl
  small := by
    have h : (Tryd.prog.info? 29).map (·.bytes) = some 24 := by kernel_rfl
    intro i hi; rw [hi] at h; simp at h; omega
  cells := rfl
  pos := by omega
def slV (x : Sl) : Value := .slice x.A x.l.length x.c
/-- The pieces so far, in a row of the call's own. -/
structure Pcs (K : Nat) (w : World) (Z : Option Addr) (zc : Nat) (ls : List Sl) : Prop where
  mine : Mine K 1 w Z ls.length zc (ls.map slV)
  each : ∀ x ∈ ls, Rb w x.A x.l ∧ (x.A = none → x.c = 0) ∧ ∀ a, x.A = some a → a.block < w.heap.size ∧ ∀ b, Z = some b → a.block ≠ b.block
theorem Pcs.nil (K : Nat) (w : World) : Pcs K w none 0 [] := ⟨Mine.nil _ _ _, by simp⟩
theorem Pcs.below {K : Nat} {w w' : World} {Z : Option Addr} {zc : Nat} {ls : List Sl} (h : Pcs K w Z zc ls) {B : Nat} (hb : Below B w w') (hB : w.heap.size ≤ B) : Pcs K w' Z zc ls :=
  ⟨h.mine.below hb hB, fun x hx => ⟨(h.each x hx).1.below hb hB, (h.each x hx).2.1, fun a ha => ⟨Nat.lt_of_lt_of_le ((h.each x hx).2.2 a ha).1 hb.size, ((h.each x hx).2.2 a ha).2⟩⟩⟩
theorem Pcs.push {K : Nat} {w w1 w2 w' : World} {Z Z' : Option Addr} {zc c' n1 nb : Nat} {ls : List Sl} (h : Pcs K w Z zc ls) (hn1 : ls.length + 1 = n1) (hb : Below w.heap.size w w1) (x : Sl)
    (hx : Rb w1 x.A x.l) (hnon : x.A = none → x.c = 0) (hxb : ∀ a, x.A = some a → w.heap.size ≤ a.block ∧ a.block < w1.heap.size) (hb2 : Below w1.heap.size w1 w2) (hnb : w1.heap.size ≤ nb)
    (m1 : Mine K 1 w' Z' n1 c' (ls.map slV ++ [slV x])) (g1 : w2.grownBy w' (Z.map (·.block))) (d1 : Z' = Z ∨ ∀ a, Z' = some a → nb ≤ a.block) : Pcs K w' Z' c' (ls ++ [x]) := by
  subst hn1
  have ho : Only (fun j => ∃ b, Z = some b ∧ b.block = j) w2 w' := Only.of_grown g1 (fun k e => by rw [Option.map_eq_some_iff] at e; exact e)
  refine ⟨by rw [List.map_append, List.length_append]; exact m1, fun y hy => ?_⟩
  have hsz := hb.size
  have hsz2 := hb2.size
  rcases List.mem_append.1 hy with hy | hy
  · obtain ⟨e1, e2, e3⟩ := h.each y hy
    refine ⟨rb_only ((e1.below hb (Nat.le_refl _)).below hb2 (Nat.le_refl _)) ho (fun a ha ⟨b, hb, e⟩ => (e3 a ha).2 b hb e.symm), e2, fun a ha => ?_⟩
    obtain ⟨h1, h2⟩ := e3 a ha
    refine ⟨by have := ho.size; omega, fun b hb => ?_⟩
    rcases d1 with d1 | d1
    · rw [d1] at hb; exact h2 b hb
    · have := d1 b hb; omega
  · obtain rfl := List.mem_singleton.1 hy
    refine ⟨rb_only (hx.below hb2 (Nat.le_refl _)) ho (fun a ha ⟨b, hb, e⟩ => ?_), hnon, fun a ha => ?_⟩
    · have h1 := (h.mine.base hb).2.1
      have h2 := (hxb a ha).1
      omega
    · obtain ⟨h1, h2⟩ := hxb a ha
      refine ⟨by have := ho.size; omega, fun b hb => ?_⟩
      rcases d1 with d1 | d1
      · rw [d1] at hb
        have := (h.mine.base hb).2.1
        omega
      · have := d1 b hb; omega
theorem rs_pcs {K : Nat} {w : World} {Z : Option Addr} {zc : Nat} {ls : List Sl} (h : Pcs K w Z zc ls) : Rs w Z ls := fun h0 => by
  cases Z with
  | none => have := h.mine.non rfl; have := h.mine.le; omega
  | some a =>
    obtain ⟨g, o, rfl, h1, h2, h3, h4⟩ := h.mine.lies a rfl
    refine ⟨g, o, rfl, h2, fun j hj => ?_⟩
    rw [h4 j (by simpa using hj)]
    simp [slV]
theorem each_pcs {K : Nat} {w : World} {Z : Option Addr} {zc : Nat} {ls : List Sl} (h : Pcs K w Z zc ls) : Each w ls := fun x hx => ⟨(h.each x hx).1, (h.each x hx).2.1⟩
theorem src_one {w : World} (X : Option Addr) (n c nb : Nat) (hnb : w.heap.size = nb) : Src Tryd.prog 1 78 (.slice (some ⟨nb, 0, none⟩) 1 1) 1 [.slice X n c] (w.alloc (.cells #[.slice X n c] 29)) := by
  subst hnb
  exact Src.ofSlice _ Tryd.underlying78 ⟨w.heap.size, 0, none⟩ 1 1 [.slice X n c] (by simp) (new_cells w #[.slice X n c] 29) (by intro u hu; simp at hu; subst hu; rfl)
end Go.Proofs.YthlfahblnpijaaaDoor.Qy
