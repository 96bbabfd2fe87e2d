/- Proves what the methods of a nil and of a zero store return: errors and nothing; and that they change nothing. Conditions: as each theorem names them. -/
import Derived.Test.YtlmljhnogmfcfaaGreatEl
import Derived.OwnWalk
import Derived.Laws.MakeOwn
import Derived.StillTailTactics
import Derived.Shelf.SlMaps.Clone
import Derived.Deep.Cut
import Derived.Shelf.Lay
import Derived.Maps.OwnOps
import Derived.Maps.OwnSet
import Derived.Maps.RangeWalk
import Derived.Maps.AppendAt
import Derived.LoopIn
import Derived.LoopNIn
import Derived.TacticsInMore
import Derived.OwnWalkIn
import Derived.Shelf.RegionOpen
import Derived.Shelf.Abstract
import Derived.RangeFuncBox
import Derived.RangeFuncLeaves
import Derived.RangeFuncCalls
import Derived.RangeFuncBound
import Derived.RangeFuncNested
import Derived.Deep.QuietTactic
import Derived.BigQuiet
import Derived.RangeFuncWrites
namespace Go.Proofs.YtlmljhnogmfcfaaGreat.Iz
open Go.RowKit Ap Mi Nw Rg Ea Eb Ec Ed Ee El

/-- A nil store, or a zero one. -/
def Dead (w : World) (q : Option Addr) : Prop := q = none ∨ ∃ g, q = some ⟨g, 0, none⟩ ∧ w.cell? ⟨g, 5, none⟩ = some (.pointer none)
section
variable {w w' : World} {q : Option Addr}
theorem Dead.below (h : Dead w q) (hb : Below w.heap.size w w') : Dead w' q := by
  rcases h with h | ⟨g, h1, h2⟩
  · exact Or.inl h
  · exact Or.inr ⟨g, h1, (hb.cell (p := ⟨g, 5, none⟩) (World.block_lt_of_cell? _ _ h2)).trans h2⟩
theorem usable_dead (h : Dead w q) : Calls Tryz.prog 65 #[.pointer q] w fun e w' => e = .returned (.bool false) ∧ w' = w := by
  rcases h with rfl | ⟨g, rfl, h5⟩
  · go_enter Tryz.func65, Tryz.ntmps65
    go_wp2_with fail
    go_ret
    exact ⟨rfl, rfl⟩
  · go_enter Tryz.func65, Tryz.ntmps65
    go_wp2_with fail
    go_ret
    exact ⟨rfl, rfl⟩
theorem slot_dead (h : Dead w q) (k : ByteArray) : Calls Tryz.prog 62 #[.pointer q, .string k] w (Eb.vPost w (.tuple #[.int .i64 0, .int .i64 1])) := by
  have HU := Lib.hid (usable_dead h)
  clear h
  unfold Eb.vPost
  go_enter Tryz.func62, Tryz.ntmps62
  go_wp2_with fail
  refine HU.out.mono ?_
  rintro _ w1 ⟨rfl, rfl⟩
  go_wp2_with fail
  go_ret2
  exact ⟨rfl, Below.refl _ _⟩
theorem budget_dead (h : Dead w q) : Calls Tryz.prog 28 #[.pointer q] w (Eb.vPost w (.tuple #[.int .i64 0, .int .i64 0])) := by
  have HU := Lib.hid (usable_dead h)
  clear h
  unfold Eb.vPost
  go_enter Tryz.func28, Tryz.ntmps28
  go_wp2_with fail
  refine HU.out.mono ?_
  rintro _ w1 ⟨rfl, rfl⟩
  go_wp2_with fail
  go_ret2
  exact ⟨rfl, Below.refl _ _⟩
theorem used_dead (h : Dead w q) : Calls Tryz.prog 38 #[.pointer q] w (Eb.vPost w (.tuple #[.int .i64 0, .int .i64 0])) := by
  have HU := Lib.hid (usable_dead h)
  clear h
  unfold Eb.vPost
  go_enter Tryz.func38, Tryz.ntmps38
  go_wp2_with fail
  refine HU.out.mono ?_
  rintro _ w1 ⟨rfl, rfl⟩
  go_wp2_with fail
  go_ret2
  exact ⟨rfl, Below.refl _ _⟩
theorem next_dead (h : Dead w q) : Calls Tryz.prog 32 #[.pointer q] w (Eb.vPost w (.int .u64 18446744073709551615)) := by
  have HU := Lib.hid (usable_dead h)
  clear h
  unfold Eb.vPost
  go_enter Tryz.func32, Tryz.ntmps32
  go_wp2_with fail
  refine HU.out.mono ?_
  rintro _ w1 ⟨rfl, rfl⟩
  go_wp2_with fail
  go_ret
  exact ⟨rfl, Below.refl _ _⟩
theorem copy_dead (h : Dead w q) : Calls Tryz.prog 35 #[.pointer q] w (Eb.vPost w (.pointer none)) := by
  have HU := Lib.hid (usable_dead h)
  clear h
  unfold Eb.vPost
  go_enter Tryz.func35, Tryz.ntmps35
  go_wp2_with fail
  refine HU.out.mono ?_
  rintro _ w1 ⟨rfl, rfl⟩
  go_wp2_with fail
  go_ret
  exact ⟨rfl, Below.refl _ _⟩
theorem exp_dead (h : Dead w q) (now : Int) : Calls Tryz.prog 31 #[.pointer q, .int .u64 now] w (Eb.vPost w (.slice none 0 0)) := by
  have HU := Lib.hid (usable_dead h)
  clear h
  unfold Eb.vPost
  go_enter Tryz.func31, Tryz.ntmps31
  go_wp2_with fail
  refine HU.out.mono ?_
  rintro _ w1 ⟨rfl, rfl⟩
  go_wp2_with fail
  go_ret
  exact ⟨rfl, Below.refl _ _⟩
theorem list_dead (h : Dead w q) : Calls Tryz.prog 59 #[.pointer q] w (Eb.vPost w (.slice none 0 0)) := by
  obtain ⟨v0, hv0⟩ : ∃ v0, v0 = w.alloc (.cells #[.pointer q] 23) := ⟨_, rfl⟩
  have HB0 : Hid (Below w.heap.size w v0) := by show Below _ _ _; rw [hv0]; exact bnew _ _
  have HK0 : Hid (Blk v0 w.heap.size #[.pointer q] 23) := by show Blk _ _ _ _; rw [hv0]; exact Blk.new w _ _
  have HU := Lib.hid (usable_dead (h.below HB0.out))
  obtain ⟨s0, _⟩ := HK0.out.one
  have lk := HK0.out.lt
  clear h
  unfold Eb.vPost
  refine (callsIn_wide (n := 20)).1 ?_
  refine callsIn_of_wp_marks Tryz.func59 rfl trivial ?_ rfl
  simp only [Tryz.ntmps59, List.size_toArray, List.length_cons, List.length_nil, Nat.reduceAdd, Nat.reduceSub, Array.replicate_succ, Array.replicate_zero, List.push_toArray, List.append_toArray, List.nil_append, List.cons_append]
  gi_wp2_with fail
  rw [← hv0]
  clear hv0
  refine ⟨trivial, (callsIn_wide.2 HU.out).mono ?_⟩
  rintro _ w1 ⟨rfl, hw1⟩
  rw [hw1]
  clear hw1
  gi_wp2_with fail
  refine ⟨_, results_tmp rfl _ _ _, ?_⟩
  exact ⟨rfl, HB0.out⟩
set_option maxRecDepth 100000 in
set_option maxHeartbeats 1000000 in
theorem find_dead (h : Dead w q) (k : ByteArray) : Calls Tryz.prog 26 #[.pointer q, .string k] w (Eb.vPost w (.tuple #[emV zeroM, .int .i64 1])) := by
  obtain ⟨C, hC⟩ : ∃ C, C = w.heap.size := ⟨_, rfl⟩
  obtain ⟨v1, hv1⟩ : ∃ v1, v1 = w.alloc (.cells zA 42) := ⟨_, rfl⟩
  have HB1 : Hid (Below w.heap.size w v1) := by show Below _ _ _; rw [hv1]; exact bnew _ _
  have HK1 : Hid (Blk v1 C zA 42) := by show Blk _ _ _ _; rw [hv1, hC]; exact Blk.new w _ _
  have HC := Lib.hid hC
  have HSL := Lib.hid (slot_dead (h.below HB1.out) k)
  unfold zA at hv1
  clear h
  unfold Eb.vPost
  go_enter Tryz.func26, Tryz.ntmps26
  go_wp2_with fail
  rw [← hv1, ← hC]
  clear hv1 hC
  refine HSL.out.mono ?_
  rintro _ v2 ⟨rfl, b2⟩
  have HRB := HK1.out.below b2 HK1.out.lt
  have HB2 : Hid (Below w.heap.size w v2) := HB1.out.trans (b2.mono HB1.out.size)
  clear b2
  unfold zA at HRB
  obtain ⟨r0, r1, r2, r3, r4, r5, rf⟩ := six HRB
  have rl := HRB.lt
  have rf0 := rf 0; have rf1 := rf 1; have rf2 := rf 2; have rf3 := rf 3; have rf4 := rf 4; have rf5 := rf 5
  clear HRB rf
  go_wp2_with fail
  have HO14 : Only (fun j => j = C) v2 (put6 v2 C (.string zeroM.e.k) (.slice zeroM.A zeroM.e.v.length zeroM.a) (.slice zeroM.B zeroM.e.t.length zeroM.b) (.int .u64 zeroM.e.d) (.int .u64 zeroM.e.n) (.int .u64 zeroM.e.s)) := put6_only v2 C _ _ _ _ _ _
  exact bodyPost_ret (v := .tuple #[emV zeroM, .int .i64 1]) (by simp [results, Tryz.results26, go_sem, emV, zeroM, zeroE, r0, r1, r2, r3, r4, r5]) rfl ⟨rfl, HB2.out.trans (HO14.below (fun j e => by have := HC.out; omega) HB2.out.size)⟩
set_option maxRecDepth 100000 in
set_option maxHeartbeats 1000000 in
theorem use_dead (h : Dead w q) (k : ByteArray) : Calls Tryz.prog 20 #[.pointer q, .string k] w (Eb.vPost w (.tuple #[emV zeroM, .int .i64 1])) := by
  obtain ⟨C, hC⟩ : ∃ C, C = w.heap.size := ⟨_, rfl⟩
  obtain ⟨v1, hv1⟩ : ∃ v1, v1 = w.alloc (.cells zA 42) := ⟨_, rfl⟩
  have HB1 : Hid (Below w.heap.size w v1) := by show Below _ _ _; rw [hv1]; exact bnew _ _
  have HK1 : Hid (Blk v1 C zA 42) := by show Blk _ _ _ _; rw [hv1, hC]; exact Blk.new w _ _
  have HC := Lib.hid hC
  have HSL := Lib.hid (slot_dead (h.below HB1.out) k)
  unfold zA at hv1
  clear h
  unfold Eb.vPost
  go_enter Tryz.func20, Tryz.ntmps20
  go_wp2_with fail
  rw [← hv1, ← hC]
  clear hv1 hC
  refine HSL.out.mono ?_
  rintro _ v2 ⟨rfl, b2⟩
  have HRB := HK1.out.below b2 HK1.out.lt
  have HB2 : Hid (Below w.heap.size w v2) := HB1.out.trans (b2.mono HB1.out.size)
  clear b2
  unfold zA at HRB
  obtain ⟨r0, r1, r2, r3, r4, r5, rf⟩ := six HRB
  have rl := HRB.lt
  have rf0 := rf 0; have rf1 := rf 1; have rf2 := rf 2; have rf3 := rf 3; have rf4 := rf 4; have rf5 := rf 5
  clear HRB rf
  go_wp2_with fail
  have HO14 : Only (fun j => j = C) v2 (put6 v2 C (.string zeroM.e.k) (.slice zeroM.A zeroM.e.v.length zeroM.a) (.slice zeroM.B zeroM.e.t.length zeroM.b) (.int .u64 zeroM.e.d) (.int .u64 zeroM.e.n) (.int .u64 zeroM.e.s)) := put6_only v2 C _ _ _ _ _ _
  exact bodyPost_ret (v := .tuple #[emV zeroM, .int .i64 1]) (by simp [results, Tryz.results20, go_sem, emV, zeroM, zeroE, r0, r1, r2, r3, r4, r5]) rfl ⟨rfl, HB2.out.trans (HO14.below (fun j e => by have := HC.out; omega) HB2.out.size)⟩
set_option maxRecDepth 100000 in
set_option maxHeartbeats 1000000 in
theorem rem_dead (h : Dead w q) (k : ByteArray) : Calls Tryz.prog 21 #[.pointer q, .string k] w (Eb.vPost w (.tuple #[emV zeroM, .int .i64 1])) := by
  obtain ⟨C, hC⟩ : ∃ C, C = w.heap.size := ⟨_, rfl⟩
  obtain ⟨v1, hv1⟩ : ∃ v1, v1 = w.alloc (.cells zA 42) := ⟨_, rfl⟩
  have HB1 : Hid (Below w.heap.size w v1) := by show Below _ _ _; rw [hv1]; exact bnew _ _
  have HK1 : Hid (Blk v1 C zA 42) := by show Blk _ _ _ _; rw [hv1, hC]; exact Blk.new w _ _
  have HC := Lib.hid hC
  have HSL := Lib.hid (slot_dead (h.below HB1.out) k)
  unfold zA at hv1
  clear h
  unfold Eb.vPost
  go_enter Tryz.func21, Tryz.ntmps21
  go_wp2_with fail
  rw [← hv1, ← hC]
  clear hv1 hC
  refine HSL.out.mono ?_
  rintro _ v2 ⟨rfl, b2⟩
  have HRB := HK1.out.below b2 HK1.out.lt
  have HB2 : Hid (Below w.heap.size w v2) := HB1.out.trans (b2.mono HB1.out.size)
  clear b2
  unfold zA at HRB
  obtain ⟨r0, r1, r2, r3, r4, r5, rf⟩ := six HRB
  have rl := HRB.lt
  have rf0 := rf 0; have rf1 := rf 1; have rf2 := rf 2; have rf3 := rf 3; have rf4 := rf 4; have rf5 := rf 5
  clear HRB rf
  go_wp2_with fail
  have HO14 : Only (fun j => j = C) v2 (put6 v2 C (.string zeroM.e.k) (.slice zeroM.A zeroM.e.v.length zeroM.a) (.slice zeroM.B zeroM.e.t.length zeroM.b) (.int .u64 zeroM.e.d) (.int .u64 zeroM.e.n) (.int .u64 zeroM.e.s)) := put6_only v2 C _ _ _ _ _ _
  exact bodyPost_ret (v := .tuple #[emV zeroM, .int .i64 1]) (by simp [results, Tryz.results21, go_sem, emV, zeroM, zeroE, r0, r1, r2, r3, r4, r5]) rfl ⟨rfl, HB2.out.trans (HO14.below (fun j e => by have := HC.out; omega) HB2.out.size)⟩
theorem tou_dead (h : Dead w q) (k : ByteArray) (d : Int) : Calls Tryz.prog 30 #[.pointer q, .string k, .int .u64 d] w (Eb.vPost w (.int .i64 1)) := by
  have HU := Lib.hid (slot_dead h k)
  clear h
  unfold Eb.vPost
  go_enter Tryz.func30, Tryz.ntmps30
  go_wp2_with fail
  refine HU.out.mono ?_
  rintro _ w1 ⟨rfl, hb⟩
  have HB := Lib.hid hb
  clear hb
  go_wp2_with fail
  go_ret
  exact ⟨rfl, HB.out⟩
theorem put_dead (h : Dead w q) (x : Em) : Calls Tryz.prog 22 #[.pointer q, emV x] w (Eb.vPost w (.tuple #[.slice none 0 0, .int .i64 1])) := by
  obtain ⟨v1, hv1⟩ : ∃ v1, v1 = w.alloc (.cells (emA x) 42) := ⟨_, rfl⟩
  have HB1 : Hid (Below w.heap.size w v1) := by show Below _ _ _; rw [hv1]; exact bnew _ _
  have HU := Lib.hid (usable_dead (h.below HB1.out))
  clear h
  unfold emA at hv1
  unfold emV Eb.vPost
  go_enter Tryz.func22, Tryz.ntmps22
  go_wp2_with fail
  rw [← hv1]
  clear hv1
  refine HU.out.mono ?_
  rintro _ w1 ⟨rfl, hw1⟩
  rw [hw1]
  clear hw1
  go_wp2_with fail
  go_ret2
  exact ⟨rfl, HB1.out⟩
theorem keys_dead (h : Dead w q) : Calls Tryz.prog 33 #[.pointer q] w (Eb.vPost w (.slice none 0 0)) := by
  have HLI := Lib.hid (list_dead h)
  clear h
  unfold Eb.vPost
  go_enter Tryz.func33, Tryz.ntmps33
  go_wp2_with fail
  refine HLI.out.mono ?_
  rintro _ v0 ⟨rfl, hb0⟩
  have HB0 := Lib.hid hb0
  clear hb0 HLI
  go_wp2_with fail
  go_loopw [3, 9] (fun s i wr => s = .slice none 0 0 ∧ i = .int .i64 0 ∧ wr = v0) (fun _ _ _ => 0)
  case atStart => exact ⟨rfl, rfl, rfl⟩
  case round =>
    obtain ⟨rfl, rfl, rfl⟩ := hrel
    go_wp2_with fail
    go_ret
    exact ⟨rfl, HB0.out⟩
end
end Go.Proofs.YtlmljhnogmfcfaaGreat.Iz
