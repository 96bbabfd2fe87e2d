/- Proves what the law's light returns: where it is true, the response's parts are few. Conditions: parts below the form's own bound. -/
import Derived.Test.YthlfahblnpijaaaDoorSe
import Derived.Test.YthlfahblnpijaaaDoorSo
import Derived.Deep.Cut
namespace Go.Proofs.YthlfahblnpijaaaDoor.Sja
open Go.RowKit Vm Ap Vw Va Gc Mi Mb Qm Sm Se So

/-- What an argument's parts are at most. -/
structure LimS (x : Res) : Prop where
  op1 : -9223372036854775808 ≤ x.op
  op2 : x.op ≤ 9223372036854775807
  err1 : -9223372036854775808 ≤ x.err
  err2 : x.err ≤ 9223372036854775807
  count1 : -9223372036854775808 ≤ x.count
  count2 : x.count ≤ 9223372036854775807
  version : x.version < 18446744073709551616
  items : x.items.length ≤ 140737488355328
  numbers : x.numbers.length ≤ 140737488355328
  each : ∀ y ∈ x.items, (-9223372036854775808 ≤ y.i.mark ∧ y.i.mark ≤ 9223372036854775807) ∧ y.i.value.length ≤ 140737488355328 ∧ y.i.version < 18446744073709551616 ∧ y.i.dead < 18446744073709551616
  nums : ∀ n ∈ x.numbers, n < 18446744073709551616
def sumI (ls : List Im) : Nat := (ls.map (fun y => y.i.value.length)).sum
theorem sum_take {ls : List Im} {k : Nat} (h : k < ls.length) : sumI (ls.take (k + 1)) = sumI (ls.take k) + ls[k].i.value.length := by
  unfold sumI; rw [List.take_succ_eq_append_getElem h, List.map_append, List.sum_append]; simp
theorem sum_le (B : Nat) : ∀ (ls : List Im), (∀ s ∈ ls, s.i.value.length ≤ B) → sumI ls ≤ ls.length * B
  | [], _ => by simp [sumI]
  | s :: r, h => by
    have := sum_le B r (fun x hx => h x (by simp [hx]))
    have h1 := h s (by simp)
    unfold sumI at this ⊢
    rw [List.map_cons, List.sum_cons, List.length_cons, Nat.add_mul]
    omega
theorem mem_sum : ∀ (ls : List Im) (s : Im), s ∈ ls → s.i.value.length ≤ sumI ls
  | x :: r, s, h => by
    unfold sumI
    rw [List.map_cons, List.sum_cons]
    rcases List.mem_cons.1 h with rfl | h
    · omega
    · have := mem_sum r s h; unfold sumI at this; omega
theorem take_bd (ls : List Im) (k : Nat) (h : ∀ s ∈ ls, s.i.value.length ≤ 140737488355328) (hk : ls.length ≤ 40) : sumI (ls.take k) ≤ 5629499534213120 := by
  have h1 := sum_le 140737488355328 (ls.take k) (fun s hs => h s (List.mem_of_mem_take hs))
  have h2 : (ls.take k).length ≤ 40 := by rw [List.length_take]; omega
  have h3 : (ls.take k).length * 140737488355328 ≤ 40 * 140737488355328 := Nat.mul_le_mul_right _ h2
  omega
/-- What a light response's parts are at most. -/
structure LightS (x : Res) : Prop where
  bnd : BndS x
  items : x.items.length ≤ 40
  numbers : x.numbers.length ≤ 100
  sum : sumI x.items ≤ 600
def lightPost (w : World) (x : Res) : Ending → World → Prop := fun e w' => ∃ b, e = .returned (.bool b) ∧ Below w.heap.size w w' ∧ (b = true → LightS x)

set_option maxRecDepth 100000 in
set_option maxHeartbeats 2000000 in
theorem light_any (x : Res) (w : World) (hr : RRc w x) (hl : LimS x) :
    Calls Tryd.prog 4 #[resV x] w (lightPost w x) := by
  unfold resV
  obtain ⟨C, hC⟩ : ∃ C, C = w.heap.size := ⟨_, rfl⟩
  obtain ⟨w0, hw0⟩ : ∃ w0, w0 = w.alloc (resO x) := ⟨_, rfl⟩
  have B0 : Below w.heap.size w w0 := by rw [hw0]; exact alloc_below _ _
  have HB := Lib.hid B0
  have bx : BoxS w0 C x := by rw [hw0, hC]; exact BoxS.new _ _
  have hs0 : C + 1 = w0.heap.size := by rw [hw0, hC]; simp
  have HS0 := Lib.hid hs0
  have HR := Lib.hid (fun W (h : Below w0.heap.size w0 W) => (hr.below B0 (Nat.le_refl _)).below h (Nat.le_refl _))
  have HX := Lib.hid (fun W (h : Below w0.heap.size w0 W) => bx.below h (Nat.le_refl _))
  have HL := Lib.hid hl
  obtain ⟨c0, c1, c2, c3, c4, c5, _⟩ := bx
  unfold resO at hw0
  have z1 := hl.items; have z2 := hl.numbers
  clear B0 hr hl hs0
  go_enter Tryd.func4, Tryd.ntmps4
  go_upto_region 1 with fail
  rw [← hw0, ← hC]
  clear hw0 hC
  by_cases g1 : 40 < x.items.length
  · have d1 : (40 : Int) < x.items.length := by omega
    go_wp2_with fail
    go_ret
    exact ⟨false, rfl, HB.out, fun e => by cases e⟩
  · have d1 : ¬ (40 : Int) < x.items.length := by omega
    by_cases g2 : 100 < x.numbers.length
    · have d2 : (100 : Int) < x.numbers.length := by omega
      go_wp2_with fail
      go_ret
      exact ⟨false, rfl, HB.out, fun e => by cases e⟩
    · have d2 : ¬ (100 : Int) < x.numbers.length := by omega
      have T1 := Lib.hid (fun k => take_bd x.items k (fun s hs => (HL.out.each s hs).2.1) (by omega))
      have g1' : Hid (x.items.length ≤ 40) := by show _ ≤ _; omega
      have g2' : Hid (x.numbers.length ≤ 100) := by show _ ≤ _; omega
      clear g1 g2
      go_wp2_with fail
      go_loopw [3, 19] (fun u i wr => ∃ k : Nat, k ≤ x.items.length ∧ i = .int .i64 (k : Int) ∧ u = .int .i64 ((sumI (x.items.take k) : Nat) : Int) ∧ Below w0.heap.size w0 wr) (fun _ i _ => x.items.length - (intOf i).toNat)
      case atStart => exact ⟨0, Nat.zero_le _, rfl, rfl, Below.refl _ _⟩
      case round =>
        obtain ⟨k, hk, rfl, rfl, BWo⟩ := hrel
        obtain ⟨wo, rfl⟩ : ∃ wo : World, wo = wr := ⟨_, rfl⟩
        have BW := Lib.hid BWo
        obtain ⟨_, _, k2, _, _, _, _⟩ := HX.out wo BWo
        have hszo := BWo.size
        clear BWo
        by_cases hlt : k < x.items.length
        · obtain ⟨p1, o1, ep, l1, c10, c11, c12, c13⟩ := (HR.out wo BW.out).ri.at_ hlt
          rw [ep] at k2
          rw [ep]
          have i1 : (k : Int) < x.items.length := by omega
          have HS := Lib.hid (sum_take hlt)
          have t1 := T1.out k
          have t2 := T1.out (k + 1)
          rw [HS.out] at t2
          have HSn : Hid (((sumI (x.items.take (k + 1)) : Nat) : Int) = ((sumI (x.items.take k) : Nat) : Int) + (x.items[k].i.value.length : Int)) := by show _ = _; rw [HS.out]; omega
          have t3 : sumI (x.items.take k) + x.items[k].i.value.length ≤ 5629499534213720 := by omega
          generalize sumI (x.items.take k) = m at *
          obtain ⟨y, hy⟩ : ∃ y, y = x.items[k] := ⟨_, rfl⟩
          rw [← hy] at c10 c11 c12 c13 t2 t3 HSn
          clear hy
          go_upto_region 7 with fail
          obtain ⟨w4, hw4⟩ : ∃ w4, w4 = wo.alloc (imO y) := ⟨_, rfl⟩
          have b4 : Below wo.heap.size wo w4 := by rw [hw4]; exact alloc_below _ _
          have BW4 := Lib.hid (BW.out.trans (b4.mono BW.out.size))
          have HBI : Hid (BoxI w4 wo.heap.size y) := by show BoxI _ _ _; rw [hw4]; exact BoxI.new _ _
          obtain ⟨D, hDD⟩ : ∃ D, D = wo.heap.size := ⟨_, rfl⟩
          unfold imO at hw4
          rw [← hDD] at HBI
          rw [← hw4, ← hDD]
          obtain ⟨_, t11, _, _, _⟩ := HBI.out
          clear hw4 b4 hDD k2 c10 c11 c12 c13 l1
          go_wp2_with fail
          go_roundw
          case rel => exact ⟨k + 1, by omega, by go_num, by rw [HSn.out], BW4.out⟩
          case measure => simp [intOf]; omega
        · obtain rfl : k = x.items.length := by omega
          have hnn : ¬ (x.items.length : Int) < x.items.length := by omega
          have t1 := T1.out x.items.length
          have HS1 : Hid (x.items.take x.items.length = x.items) := List.take_length
          rw [HS1.out] at t1
          rw [HS1.out]
          have HFIN : Hid (sumI x.items ≤ 600 → LightS x) := fun hle => by
            have hl := HL.out; have h1 := g1'.out; have h2 := g2'.out
            exact ⟨⟨hl.op1, hl.op2, hl.err1, hl.err2, hl.count1, hl.count2, hl.version, by omega, by omega, fun s hs => ⟨(hl.each s hs).1, by have := mem_sum _ s hs; omega, (hl.each s hs).2.2⟩, hl.nums⟩, h1, h2, hle⟩
          generalize sumI x.items = m at *
          have HBE := Lib.hid (HB.out.trans (BW.out.mono HB.out.size))
          go_wp2_with fail
          go_ret
          exact ⟨_, rfl, HBE.out, fun e => HFIN.out (by rw [decide_eq_true_eq] at e; omega)⟩
end Go.Proofs.YthlfahblnpijaaaDoor.Sja
