/- Proves what package response's parts, body and has return: the parts of an Op, in memory. Conditions: none but sizes. -/
import Derived.Test.YthlfahblnpijaaaDoorSo
import Derived.Laws.BitsAllLaws
import Derived.Laws.EntriesVeiled
namespace Go.Proofs.YthlfahblnpijaaaDoor.Sb
open Go.RowKit Vm Ap Vw Va Gc Mi Mb Qm Sm Se So

/-- The parts by their places: version, count, item, items, numbers. -/
def nmK (k : Nat) : Nat := match k with | 0 => 1 | 1 => 2 | 2 => 4 | 3 => 8 | _ => 16
def wfK (k : Nat) : Value := match k with | 0 => .func (.func 60) #[] #[] | 1 => .func (.func 62) #[] #[] | 2 => .func (.func 64) #[] #[] | 3 => .func (.func 68) #[] #[] | _ => .func (.func 72) #[] #[]
def rfK (k : Nat) : Value := match k with | 0 => .func (.func 61) #[] #[] | 1 => .func (.func 63) #[] #[] | 2 => .func (.func 66) #[] #[] | 3 => .func (.func 70) #[] #[] | _ => .func (.func 74) #[] #[]
def prtV (k : Nat) : Value := .agg #[.int .u64 (nmK k : Int), wfK k, rfK k]
def partsS (op : Int) : List Nat := if op = 1 ∨ op = 2 ∨ op = 3 then [0, 1] else if op = 4 then [2] else if op = 5 then [3] else if 6 ≤ op ∧ op ≤ 14 then [1] else if op = 15 then [4] else []
def bodyK (op err : Int) : List Nat := if err ≠ 0 then [] else partsS op
def setN : List Nat → Nat := fun ks => ks.foldl (fun a k => a ||| nmK k) 0
theorem setN_snoc (ks : List Nat) (k : Nat) : setN (ks ++ [k]) = setN ks ||| nmK k := by unfold setN; rw [List.foldl_append]; rfl
theorem nm_lt (k : Nat) : nmK k < 32 := by unfold nmK; split <;> omega
theorem or32 {a b : Nat} (h : a < 32) (k : b < 32) : a ||| b < 32 := Nat.or_lt_two_pow (n := 5) h k
theorem fold_lt : ∀ (ks : List Nat) (a : Nat), a < 32 → ks.foldl (fun a k => a ||| nmK k) a < 32
  | [], _, h => h
  | k :: r, _, h => fold_lt r _ (or32 h (nm_lt k))
theorem setN_lt (ks : List Nat) : setN ks < 32 := fold_lt ks 0 (by omega)
def hasB (a m : Nat) : Bool := decide (a &&& m ≠ 0)
/-- The slice at Z reads as these parts. -/
def RP (w : World) (Z : Option Addr) (ks : List Nat) : Prop :=
  0 < ks.length → ∃ b o, Z = some ⟨b, o, none⟩ ∧ b < w.heap.size ∧ ∀ j (h : j < ks.length), w.cell? ⟨b, o + j * 3, none⟩ = some (.int .u64 (nmK ks[j] : Int)) ∧ w.cell? ⟨b, o + j * 3 + 1, none⟩ = some (wfK ks[j]) ∧ w.cell? ⟨b, o + j * 3 + 2, none⟩ = some (rfK ks[j])
theorem RP.nil (w : World) (Z : Option Addr) : RP w Z [] := fun h => by simp at h
theorem RP.below {w w' : World} {Z : Option Addr} {ks : List Nat} (h : RP w Z ks) {B : Nat} (hb : Below B w w') (hB : w.heap.size ≤ B) : RP w' Z ks := fun h0 => by
  obtain ⟨b, o, e, hlt, hc⟩ := h h0
  refine ⟨b, o, e, Nat.lt_of_lt_of_le hlt hb.size, fun j hj => ?_⟩
  have hk : ∀ q, w'.cell? ⟨b, q, none⟩ = w.cell? ⟨b, q, none⟩ := fun q => hb.cell (p := ⟨b, q, none⟩) (by show b < B; omega)
  rw [hk, hk, hk]; exact hc j hj
theorem RP.at_ {w : World} {Z : Option Addr} {ks : List Nat} (h : RP w Z ks) {j : Nat} (hj : j < ks.length) : ∃ b o, Z = some ⟨b, o, none⟩ ∧ b < w.heap.size ∧ w.cell? ⟨b, o + j * 3, none⟩ = some (.int .u64 (nmK ks[j] : Int)) ∧ w.cell? ⟨b, o + j * 3 + 1, none⟩ = some (wfK ks[j]) ∧ w.cell? ⟨b, o + j * 3 + 2, none⟩ = some (rfK ks[j]) := by
  obtain ⟨b, o, e, hlt, hc⟩ := h (by omega)
  exact ⟨b, o, e, hlt, hc j hj⟩
/-- A block that holds the list of the parts. -/
def PB (B : Nat) (w : World) (g : Nat) (ks : List Nat) : Prop := ∃ Z zc, w.cell? ⟨g, 0, none⟩ = some (.slice Z ks.length zc) ∧ RP w Z ks ∧ ∀ a, Z = some a → B ≤ a.block
theorem RP.only {w w' : World} {Z : Option Addr} {ks : List Nat} (h : RP w Z ks) {F : Nat → Prop} (ho : Only F w w') (hn : ∀ a, Z = some a → ¬ F a.block) : RP w' Z ks := fun h0 => by
  obtain ⟨b, o, e, hlt, hc⟩ := h h0
  refine ⟨b, o, e, Nat.lt_of_lt_of_le hlt ho.size, fun j hj => ?_⟩
  have hk : ∀ q, w'.cell? ⟨b, q, none⟩ = w.cell? ⟨b, q, none⟩ := fun q => ho.cell (a := ⟨b, q, none⟩) hlt (hn ⟨b, o, none⟩ e)
  rw [hk, hk, hk]; exact hc j hj
theorem PB.only {B : Nat} {w w' : World} {g : Nat} {ks : List Nat} (h : PB B w g ks) {F : Nat → Prop} (ho : Only F w w') (hg : ¬ F g) (hn : ∀ j, B ≤ j → ¬ F j) : PB B w' g ks := by
  obtain ⟨Z, zc, h1, h2, h3⟩ := h
  have hl := World.block_lt_of_cell? _ _ h1
  exact ⟨Z, zc, by rw [ho.cell (a := ⟨g, 0, none⟩) hl hg]; exact h1, h2.only ho (fun a ha => hn _ (h3 a ha)), h3⟩
theorem PB.below {B : Nat} {w w' : World} {g : Nat} {ks : List Nat} (h : PB B w g ks) {B' : Nat} (hb : Below B' w w') (hB : w.heap.size ≤ B') : PB B w' g ks :=
  h.only (Only.of_below hb hB (fun _ => False)) (fun e => e) (fun _ _ e => e)
theorem PB.mono {B B' : Nat} {w : World} {g : Nat} {ks : List Nat} (h : PB B w g ks) (hB : B' ≤ B) : PB B' w g ks := by
  obtain ⟨Z, zc, h1, h2, h3⟩ := h
  exact ⟨Z, zc, h1, h2, fun a ha => Nat.le_trans hB (h3 a ha)⟩
def togV (ks : List Nat) (g : Nat) : Value := .agg #[.int .u64 (setN ks : Int), .func (.func 48) #[] #[.pointer (some ⟨g, 0, none⟩)], .func (.func 49) #[] #[.pointer (some ⟨g, 0, none⟩)]]
def togPost (B : Nat) (w : World) (ks : List Nat) : Ending → World → Prop := fun e w' => ∃ g, e = .returned (togV ks g) ∧ PB B w' g ks ∧ w.heap.size ≤ g ∧ Below w.heap.size w w'
theorem fld0 (a b c : Value) (w : World) : (Instr.field 59 (.agg #[a, b, c]) 0).run Tryd.prog w = .ok a w := by kernel_rfl
theorem fld1 (a b c : Value) (w : World) : (Instr.field 59 (.agg #[a, b, c]) 1).run Tryd.prog w = .ok b w := by kernel_rfl
theorem fld2 (a b c : Value) (w : World) : (Instr.field 59 (.agg #[a, b, c]) 2).run Tryd.prog w = .ok c w := by kernel_rfl
theorem has_any (a m : Nat) (w : World) (ha : a < 32) (hm : m < 32) : Calls Tryd.prog 16 #[.int .u64 (a : Int), .int .u64 (m : Int)] w fun e w' => e = .returned (.bool (hasB a m)) ∧ w = w' := by
  have e1 : bits .and .u64 (a : Int) (m : Int) = ((a &&& m : Nat) : Int) := u64_and_nat a m (by omega) (by omega)
  have HH : Hid (hasB a m = decide (a &&& m ≠ 0)) := rfl
  generalize a &&& m = q at *
  go_enter Tryd.func16, Tryd.ntmps16
  go_wp2_with fail
  go_ret
  exact ⟨ret_b (by rw [HH.out, Bool.eq_iff_iff]; simp), rfl⟩
set_option maxRecDepth 100000 in
set_option maxHeartbeats 2000000 in
theorem part0_any (w : World) : Calls Tryd.prog 50 #[] w (fun e w' => e = .returned (prtV 0) ∧ Below w.heap.size w w') := by
  obtain ⟨C, hC⟩ : ∃ C, C = w.heap.size := ⟨_, rfl⟩
  obtain ⟨w0, hw0⟩ : ∃ w0, w0 = w.alloc (.cells #[.int .u64 0, .nilFunc, .nilFunc] 59) := ⟨_, rfl⟩
  have HB : Hid (Below w.heap.size w w0) := by show Below _ _ _; rw [hw0]; exact alloc_below _ _
  have HC := Lib.hid hC
  have ce : Cel3 w0 C (.int .u64 0) .nilFunc .nilFunc := by rw [hw0, hC]; exact Cel3.new _ _ _ _ _
  obtain ⟨z0, z1, z2, f0, f1, f2⟩ := ce
  go_enter Tryd.func50, Tryd.ntmps50
  go_upto_region 1 with fail
  rw [← hw0, ← hC]
  clear hw0 hC
  go_wp2_with fail
  exact bodyPost_ret (v := .agg #[.int .u64 1, .func (.func 60) #[] #[], .func (.func 61) #[] #[]]) (by simp [results, Tryd.results50, go_sem, z0, z1, z2]) rfl ⟨rfl, ((HB.out.setCell (by have := HC.out; simp; omega) _).setCell (by have := HC.out; simp; omega) _).setCell (by have := HC.out; simp; omega) _⟩
set_option maxRecDepth 100000 in
set_option maxHeartbeats 2000000 in
theorem part1_any (w : World) : Calls Tryd.prog 51 #[] w (fun e w' => e = .returned (prtV 1) ∧ Below w.heap.size w w') := by
  obtain ⟨C, hC⟩ : ∃ C, C = w.heap.size := ⟨_, rfl⟩
  obtain ⟨w0, hw0⟩ : ∃ w0, w0 = w.alloc (.cells #[.int .u64 0, .nilFunc, .nilFunc] 59) := ⟨_, rfl⟩
  have HB : Hid (Below w.heap.size w w0) := by show Below _ _ _; rw [hw0]; exact alloc_below _ _
  have HC := Lib.hid hC
  have ce : Cel3 w0 C (.int .u64 0) .nilFunc .nilFunc := by rw [hw0, hC]; exact Cel3.new _ _ _ _ _
  obtain ⟨z0, z1, z2, f0, f1, f2⟩ := ce
  go_enter Tryd.func51, Tryd.ntmps51
  go_upto_region 1 with fail
  rw [← hw0, ← hC]
  clear hw0 hC
  go_wp2_with fail
  exact bodyPost_ret (v := .agg #[.int .u64 2, .func (.func 62) #[] #[], .func (.func 63) #[] #[]]) (by simp [results, Tryd.results51, go_sem, z0, z1, z2]) rfl ⟨rfl, ((HB.out.setCell (by have := HC.out; simp; omega) _).setCell (by have := HC.out; simp; omega) _).setCell (by have := HC.out; simp; omega) _⟩
set_option maxRecDepth 100000 in
set_option maxHeartbeats 2000000 in
theorem part2_any (w : World) : Calls Tryd.prog 52 #[] w (fun e w' => e = .returned (prtV 2) ∧ Below w.heap.size w w') := by
  obtain ⟨C, hC⟩ : ∃ C, C = w.heap.size := ⟨_, rfl⟩
  obtain ⟨w0, hw0⟩ : ∃ w0, w0 = w.alloc (.cells #[.int .u64 0, .nilFunc, .nilFunc] 59) := ⟨_, rfl⟩
  have HB : Hid (Below w.heap.size w w0) := by show Below _ _ _; rw [hw0]; exact alloc_below _ _
  have HC := Lib.hid hC
  have ce : Cel3 w0 C (.int .u64 0) .nilFunc .nilFunc := by rw [hw0, hC]; exact Cel3.new _ _ _ _ _
  obtain ⟨z0, z1, z2, f0, f1, f2⟩ := ce
  go_enter Tryd.func52, Tryd.ntmps52
  go_upto_region 1 with fail
  rw [← hw0, ← hC]
  clear hw0 hC
  go_wp2_with fail
  exact bodyPost_ret (v := .agg #[.int .u64 4, .func (.func 64) #[] #[], .func (.func 66) #[] #[]]) (by simp [results, Tryd.results52, go_sem, z0, z1, z2]) rfl ⟨rfl, ((HB.out.setCell (by have := HC.out; simp; omega) _).setCell (by have := HC.out; simp; omega) _).setCell (by have := HC.out; simp; omega) _⟩
set_option maxRecDepth 100000 in
set_option maxHeartbeats 2000000 in
theorem part3_any (w : World) : Calls Tryd.prog 53 #[] w (fun e w' => e = .returned (prtV 3) ∧ Below w.heap.size w w') := by
  obtain ⟨C, hC⟩ : ∃ C, C = w.heap.size := ⟨_, rfl⟩
  obtain ⟨w0, hw0⟩ : ∃ w0, w0 = w.alloc (.cells #[.int .u64 0, .nilFunc, .nilFunc] 59) := ⟨_, rfl⟩
  have HB : Hid (Below w.heap.size w w0) := by show Below _ _ _; rw [hw0]; exact alloc_below _ _
  have HC := Lib.hid hC
  have ce : Cel3 w0 C (.int .u64 0) .nilFunc .nilFunc := by rw [hw0, hC]; exact Cel3.new _ _ _ _ _
  obtain ⟨z0, z1, z2, f0, f1, f2⟩ := ce
  go_enter Tryd.func53, Tryd.ntmps53
  go_upto_region 1 with fail
  rw [← hw0, ← hC]
  clear hw0 hC
  go_wp2_with fail
  exact bodyPost_ret (v := .agg #[.int .u64 8, .func (.func 68) #[] #[], .func (.func 70) #[] #[]]) (by simp [results, Tryd.results53, go_sem, z0, z1, z2]) rfl ⟨rfl, ((HB.out.setCell (by have := HC.out; simp; omega) _).setCell (by have := HC.out; simp; omega) _).setCell (by have := HC.out; simp; omega) _⟩
set_option maxRecDepth 100000 in
set_option maxHeartbeats 2000000 in
theorem part4_any (w : World) : Calls Tryd.prog 54 #[] w (fun e w' => e = .returned (prtV 4) ∧ Below w.heap.size w w') := by
  obtain ⟨C, hC⟩ : ∃ C, C = w.heap.size := ⟨_, rfl⟩
  obtain ⟨w0, hw0⟩ : ∃ w0, w0 = w.alloc (.cells #[.int .u64 0, .nilFunc, .nilFunc] 59) := ⟨_, rfl⟩
  have HB : Hid (Below w.heap.size w w0) := by show Below _ _ _; rw [hw0]; exact alloc_below _ _
  have HC := Lib.hid hC
  have ce : Cel3 w0 C (.int .u64 0) .nilFunc .nilFunc := by rw [hw0, hC]; exact Cel3.new _ _ _ _ _
  obtain ⟨z0, z1, z2, f0, f1, f2⟩ := ce
  go_enter Tryd.func54, Tryd.ntmps54
  go_upto_region 1 with fail
  rw [← hw0, ← hC]
  clear hw0 hC
  go_wp2_with fail
  exact bodyPost_ret (v := .agg #[.int .u64 16, .func (.func 72) #[] #[], .func (.func 74) #[] #[]]) (by simp [results, Tryd.results54, go_sem, z0, z1, z2]) rfl ⟨rfl, ((HB.out.setCell (by have := HC.out; simp; omega) _).setCell (by have := HC.out; simp; omega) _).setCell (by have := HC.out; simp; omega) _⟩
theorem wf_func (k : Nat) : ∃ f, wfK k = .func f #[] #[] := by unfold wfK; split <;> exact ⟨_, rfl⟩
theorem rf_func (k : Nat) : ∃ f, rfK k = .func f #[] #[] := by unfold rfK; split <;> exact ⟨_, rfl⟩
def partsPost (w : World) (ks : List Nat) : Ending → World → Prop := fun e w' => ∃ Z zc, e = .returned (.slice Z ks.length zc) ∧ RP w' Z ks ∧ (∀ a, Z = some a → w.heap.size ≤ a.block) ∧ Below w.heap.size w w'
theorem lit1 (w : World) (k : Nat) : RP (w.alloc (.cells #[.int .u64 (nmK k : Int), wfK k, rfK k] 59)) (some ⟨w.heap.size, 0, none⟩) [k] := fun _ => by
  have hc := heap_alloc_new w (.cells #[.int .u64 (nmK k : Int), wfK k, rfK k] 59)
  refine ⟨_, 0, rfl, by simp, fun j hj => ?_⟩
  obtain rfl : j = 0 := by simp at hj; omega
  refine ⟨?_, ?_, ?_⟩ <;> (rw [cell_of_row _ _ _ _ _ (0, 0) hc]; rfl)
theorem lit2 (w : World) (k l : Nat) : RP (w.alloc (.cells #[.int .u64 (nmK k : Int), wfK k, rfK k, .int .u64 (nmK l : Int), wfK l, rfK l] 59)) (some ⟨w.heap.size, 0, none⟩) [k, l] := fun _ => by
  have hc := heap_alloc_new w (.cells #[.int .u64 (nmK k : Int), wfK k, rfK k, .int .u64 (nmK l : Int), wfK l, rfK l] 59)
  refine ⟨_, 0, rfl, by simp, fun j hj => ?_⟩
  have hj2 : j = 0 ∨ j = 1 := by simp at hj; omega
  rcases hj2 with rfl | rfl
  all_goals (refine ⟨?_, ?_, ?_⟩ <;> (rw [cell_of_row _ _ _ _ _ (0, 0) hc]; rfl))
set_option maxRecDepth 100000 in
set_option maxHeartbeats 8000000 in
theorem partsOf_any (op : Int) (w : World) : Calls Tryd.prog 30 #[.int .i64 op] w (partsPost w (partsS op)) := by
  by_cases h1 : op = 1
  · subst h1
    go_enter Tryd.func30, Tryd.ntmps30
    go_wp2_with fail
    with_reducible refine (part0_any _).mono ?_
    rintro e w0 ⟨rfl, b0⟩
    unfold prtV
    go_wp2_with fail
    with_reducible refine (part1_any _).mono ?_
    rintro e w1 ⟨rfl, b1⟩
    unfold prtV
    go_wp2_with fail
    go_ret
    exact ⟨_, _, rfl, lit2 w1 0 1, (fun a e => by injection e with e; rw [← e]; exact (b0.trans (b1.mono b0.size)).size), (b0.trans (b1.mono b0.size)).alloc (b0.trans (b1.mono b0.size)).size _⟩
  by_cases h2 : op = 2
  · subst h2
    go_enter Tryd.func30, Tryd.ntmps30
    go_wp2_with fail
    with_reducible refine (part0_any _).mono ?_
    rintro e w0 ⟨rfl, b0⟩
    unfold prtV
    go_wp2_with fail
    with_reducible refine (part1_any _).mono ?_
    rintro e w1 ⟨rfl, b1⟩
    unfold prtV
    go_wp2_with fail
    go_ret
    exact ⟨_, _, rfl, lit2 w1 0 1, (fun a e => by injection e with e; rw [← e]; exact (b0.trans (b1.mono b0.size)).size), (b0.trans (b1.mono b0.size)).alloc (b0.trans (b1.mono b0.size)).size _⟩
  by_cases h3 : op = 3
  · subst h3
    go_enter Tryd.func30, Tryd.ntmps30
    go_wp2_with fail
    with_reducible refine (part0_any _).mono ?_
    rintro e w0 ⟨rfl, b0⟩
    unfold prtV
    go_wp2_with fail
    with_reducible refine (part1_any _).mono ?_
    rintro e w1 ⟨rfl, b1⟩
    unfold prtV
    go_wp2_with fail
    go_ret
    exact ⟨_, _, rfl, lit2 w1 0 1, (fun a e => by injection e with e; rw [← e]; exact (b0.trans (b1.mono b0.size)).size), (b0.trans (b1.mono b0.size)).alloc (b0.trans (b1.mono b0.size)).size _⟩
  by_cases h4 : op = 4
  · subst h4
    go_enter Tryd.func30, Tryd.ntmps30
    go_wp2_with fail
    with_reducible refine (part2_any _).mono ?_
    rintro e w0 ⟨rfl, b0⟩
    unfold prtV
    go_wp2_with fail
    go_ret
    exact ⟨_, _, rfl, lit1 w0 2, (fun a e => by injection e with e; rw [← e]; exact b0.size), b0.alloc b0.size _⟩
  by_cases h5 : op = 5
  · subst h5
    go_enter Tryd.func30, Tryd.ntmps30
    go_wp2_with fail
    with_reducible refine (part3_any _).mono ?_
    rintro e w0 ⟨rfl, b0⟩
    unfold prtV
    go_wp2_with fail
    go_ret
    exact ⟨_, _, rfl, lit1 w0 3, (fun a e => by injection e with e; rw [← e]; exact b0.size), b0.alloc b0.size _⟩
  by_cases h6 : op = 6
  · subst h6
    go_enter Tryd.func30, Tryd.ntmps30
    go_wp2_with fail
    with_reducible refine (part1_any _).mono ?_
    rintro e w0 ⟨rfl, b0⟩
    unfold prtV
    go_wp2_with fail
    go_ret
    exact ⟨_, _, rfl, lit1 w0 1, (fun a e => by injection e with e; rw [← e]; exact b0.size), b0.alloc b0.size _⟩
  by_cases h7 : op = 7
  · subst h7
    go_enter Tryd.func30, Tryd.ntmps30
    go_wp2_with fail
    with_reducible refine (part1_any _).mono ?_
    rintro e w0 ⟨rfl, b0⟩
    unfold prtV
    go_wp2_with fail
    go_ret
    exact ⟨_, _, rfl, lit1 w0 1, (fun a e => by injection e with e; rw [← e]; exact b0.size), b0.alloc b0.size _⟩
  by_cases h8 : op = 8
  · subst h8
    go_enter Tryd.func30, Tryd.ntmps30
    go_wp2_with fail
    with_reducible refine (part1_any _).mono ?_
    rintro e w0 ⟨rfl, b0⟩
    unfold prtV
    go_wp2_with fail
    go_ret
    exact ⟨_, _, rfl, lit1 w0 1, (fun a e => by injection e with e; rw [← e]; exact b0.size), b0.alloc b0.size _⟩
  by_cases h9 : op = 9
  · subst h9
    go_enter Tryd.func30, Tryd.ntmps30
    go_wp2_with fail
    with_reducible refine (part1_any _).mono ?_
    rintro e w0 ⟨rfl, b0⟩
    unfold prtV
    go_wp2_with fail
    go_ret
    exact ⟨_, _, rfl, lit1 w0 1, (fun a e => by injection e with e; rw [← e]; exact b0.size), b0.alloc b0.size _⟩
  by_cases h10 : op = 10
  · subst h10
    go_enter Tryd.func30, Tryd.ntmps30
    go_wp2_with fail
    with_reducible refine (part1_any _).mono ?_
    rintro e w0 ⟨rfl, b0⟩
    unfold prtV
    go_wp2_with fail
    go_ret
    exact ⟨_, _, rfl, lit1 w0 1, (fun a e => by injection e with e; rw [← e]; exact b0.size), b0.alloc b0.size _⟩
  by_cases h11 : op = 11
  · subst h11
    go_enter Tryd.func30, Tryd.ntmps30
    go_wp2_with fail
    with_reducible refine (part1_any _).mono ?_
    rintro e w0 ⟨rfl, b0⟩
    unfold prtV
    go_wp2_with fail
    go_ret
    exact ⟨_, _, rfl, lit1 w0 1, (fun a e => by injection e with e; rw [← e]; exact b0.size), b0.alloc b0.size _⟩
  by_cases h12 : op = 12
  · subst h12
    go_enter Tryd.func30, Tryd.ntmps30
    go_wp2_with fail
    with_reducible refine (part1_any _).mono ?_
    rintro e w0 ⟨rfl, b0⟩
    unfold prtV
    go_wp2_with fail
    go_ret
    exact ⟨_, _, rfl, lit1 w0 1, (fun a e => by injection e with e; rw [← e]; exact b0.size), b0.alloc b0.size _⟩
  by_cases h13 : op = 13
  · subst h13
    go_enter Tryd.func30, Tryd.ntmps30
    go_wp2_with fail
    with_reducible refine (part1_any _).mono ?_
    rintro e w0 ⟨rfl, b0⟩
    unfold prtV
    go_wp2_with fail
    go_ret
    exact ⟨_, _, rfl, lit1 w0 1, (fun a e => by injection e with e; rw [← e]; exact b0.size), b0.alloc b0.size _⟩
  by_cases h14 : op = 14
  · subst h14
    go_enter Tryd.func30, Tryd.ntmps30
    go_wp2_with fail
    with_reducible refine (part1_any _).mono ?_
    rintro e w0 ⟨rfl, b0⟩
    unfold prtV
    go_wp2_with fail
    go_ret
    exact ⟨_, _, rfl, lit1 w0 1, (fun a e => by injection e with e; rw [← e]; exact b0.size), b0.alloc b0.size _⟩
  by_cases h15 : op = 15
  · subst h15
    go_enter Tryd.func30, Tryd.ntmps30
    go_wp2_with fail
    with_reducible refine (part4_any _).mono ?_
    rintro e w0 ⟨rfl, b0⟩
    unfold prtV
    go_wp2_with fail
    go_ret
    exact ⟨_, _, rfl, lit1 w0 4, (fun a e => by injection e with e; rw [← e]; exact b0.size), b0.alloc b0.size _⟩
  have HN : Hid (partsS op = []) := by show _ = _; unfold partsS; rw [if_neg (by omega), if_neg h4, if_neg h5, if_neg (by omega), if_neg h15]
  have d1 : (op == 1) = false := by rw [beq_eq_false_iff_ne]; exact h1
  have d2 : (op == 2) = false := by rw [beq_eq_false_iff_ne]; exact h2
  have d3 : (op == 3) = false := by rw [beq_eq_false_iff_ne]; exact h3
  have d4 : (op == 4) = false := by rw [beq_eq_false_iff_ne]; exact h4
  have d5 : (op == 5) = false := by rw [beq_eq_false_iff_ne]; exact h5
  have d6 : (op == 6) = false := by rw [beq_eq_false_iff_ne]; exact h6
  have d7 : (op == 7) = false := by rw [beq_eq_false_iff_ne]; exact h7
  have d8 : (op == 8) = false := by rw [beq_eq_false_iff_ne]; exact h8
  have d9 : (op == 9) = false := by rw [beq_eq_false_iff_ne]; exact h9
  have d10 : (op == 10) = false := by rw [beq_eq_false_iff_ne]; exact h10
  have d11 : (op == 11) = false := by rw [beq_eq_false_iff_ne]; exact h11
  have d12 : (op == 12) = false := by rw [beq_eq_false_iff_ne]; exact h12
  have d13 : (op == 13) = false := by rw [beq_eq_false_iff_ne]; exact h13
  have d14 : (op == 14) = false := by rw [beq_eq_false_iff_ne]; exact h14
  have d15 : (op == 15) = false := by rw [beq_eq_false_iff_ne]; exact h15
  clear h1 h2 h3 h4 h5 h6 h7 h8 h9 h10 h11 h12 h13 h14 h15
  go_enter Tryd.func30, Tryd.ntmps30
  go_wp2_with fail
  go_ret
  exact ⟨none, 0, by rw [HN.out]; rfl, by rw [HN.out]; exact RP.nil _ _, (fun a e => by cases e), Below.refl _ _⟩
set_option maxRecDepth 100000 in
set_option maxHeartbeats 4000000 in
theorem together_any (B : Nat) (Z : Option Addr) (ks : List Nat) (zc : Nat) (w : World) (hZ : RP w Z ks) (hk : ks.length ≤ 1000) (hZB : ∀ a, Z = some a → B ≤ a.block) : Calls Tryd.prog 29 #[.slice Z ks.length zc] w (togPost B w ks) := by
  obtain ⟨C, hC⟩ : ∃ C, C = w.heap.size := ⟨_, rfl⟩
  obtain ⟨w0, hw0⟩ : ∃ w0, w0 = (w.alloc (.cells #[.slice Z ks.length zc] 82)).alloc (.cells #[.int .u64 0, .nilFunc, .nilFunc] 59) := ⟨_, rfl⟩
  have HB : Hid (Below w.heap.size w w0) := by show Below _ _ _; rw [hw0]; exact two_below _ _ _
  have HC := Lib.hid hC
  have HS : Hid (w0.heap.size = C + 2) := by show _ = _; rw [hw0, hC]; simp
  have HA : Hid (∀ W, Below (C + 1) w0 W → W.cell? ⟨C, 0, none⟩ = some (.slice Z ks.length zc)) := fun W h => by
    have e : w0.cell? ⟨C, 0, none⟩ = some (.slice Z ks.length zc) := by
      rw [hw0, (alloc_below (w.alloc (.cells #[.slice Z ks.length zc] 82)) _).cell (p := ⟨C, 0, none⟩) (by rw [hC]; simp), hC, cell_of_row _ _ _ _ _ (0, 0) (heap_alloc_new _ _)]; rfl
    rw [h.cell (p := ⟨C, 0, none⟩) (by show C < C + 1; omega)]; exact e
  have HE : Hid (Cel3 w0 (C + 1) (.int .u64 0) .nilFunc .nilFunc) := by
    have h := Cel3.new (w.alloc (.cells #[.slice Z ks.length zc] 82)) (.int .u64 0) .nilFunc .nilFunc 59
    have e : (w.alloc (.cells #[.slice Z ks.length zc] 82)).heap.size = C + 1 := by rw [hC]; simp
    rw [e] at h; show Cel3 _ _ _ _ _; rw [hw0]; exact h
  have HR := Lib.hid (fun W (h : Below w0.heap.size w0 W) => (hZ.below HB.out (Nat.le_refl _)).below h (Nat.le_refl _))
  have a0 := HA.out w0 (Below.refl _ _)
  have HRB := Lib.hid hZ
  have HZB := Lib.hid hZB
  clear hZ hZB
  go_enter Tryd.func29, Tryd.ntmps29
  go_upto_region 1 with fail
  rw [← hw0, ← hC]
  clear hw0 hC
  go_wp2_with fail
  clear a0
  go_loopw [3, 8] (fun u i wr => ∃ (k : Nat), k ≤ ks.length ∧ i = .int .i64 (k : Int) ∧ u = .int .u64 (setN (ks.take k) : Int) ∧ Below w0.heap.size w0 wr) (fun _ i _ => ks.length - (intOf i).toNat)
  case atStart => exact ⟨0, Nat.zero_le _, rfl, rfl, Below.refl _ _⟩
  case round =>
    obtain ⟨k, hkl, rfl, rfl, hbw⟩ := hrel
    obtain ⟨wo, rfl⟩ : ∃ wo : World, wo = wr := ⟨_, rfl⟩
    have HBW := Lib.hid hbw
    clear hbw
    by_cases hlt : k < ks.length
    · have i1 : (k : Int) < ks.length := by omega
      obtain ⟨b, o, rfl, hb, c0, c1, c2⟩ := (HR.out wo HBW.out).at_ hlt
      have HS1 : Hid (setN (ks.take (k + 1)) = setN (ks.take k) ||| nmK ks[k]) := by show _ = _; rw [List.take_succ_eq_append_getElem hlt, setN_snoc]
      have hs := setN_lt (ks.take k)
      have hn := nm_lt ks[k]
      have e1 := u64_or_nat (setN (ks.take k)) (nmK ks[k]) (by omega) (by omega)
      generalize setN (ks.take k) = s at *
      generalize ks[k] = q at *
      obtain ⟨f1, hf1⟩ := wf_func q
      obtain ⟨f2, hf2⟩ := rf_func q
      rw [hf1] at c1
      rw [hf2] at c2
      clear hf1 hf2
      have hwb := alloc_below wo (.cells #[.int .u64 (nmK q : Int), .func f1 #[] #[], .func f2 #[] #[]] 59)
      have HB5 := Lib.hid (HBW.out.trans (hwb.mono HBW.out.size))
      clear hwb
      go_wp2_with fail
      go_roundw
      case rel => exact ⟨k + 1, by omega, by go_num, by rw [HS1.out], HB5.out⟩
      case measure => simp [intOf]; omega
    · obtain rfl : k = ks.length := by omega
      have hnn : ¬ (ks.length : Int) < ks.length := by omega
      have HT : Hid (ks.take ks.length = ks) := List.take_length
      rw [HT.out]
      obtain ⟨z0, z1, z2, f0, f1, f2⟩ := HE.out.below HBW.out (Nat.le_refl _)
      have hzw := HBW.out.size
      have hs2 := HS.out
      have HP3 : Hid (∀ a b c : Value, PB B (((wo.setCell ⟨C + 1, 0, none⟩ a).setCell ⟨C + 1, 1, none⟩ b).setCell ⟨C + 1, 2, none⟩ c) C ks) := fun a b c => by
        have hb4 : Below (C + 1) w0 (((wo.setCell ⟨C + 1, 0, none⟩ a).setCell ⟨C + 1, 1, none⟩ b).setCell ⟨C + 1, 2, none⟩ c) :=
          (((HBW.out.mono (by rw [HS.out]; omega)).setCell (by simp) _).setCell (by simp) _).setCell (by simp) _
        refine ⟨Z, zc, HA.out _ hb4, fun h0 => ?_, HZB.out⟩
        obtain ⟨b1, o1, e1, hlt1, hc1⟩ := HRB.out h0
        refine ⟨b1, o1, e1, by have := hb4.size; have := HB.out.size; have := HC.out; omega, fun j hj => ?_⟩
        have hk : ∀ q, (((wo.setCell ⟨C + 1, 0, none⟩ a).setCell ⟨C + 1, 1, none⟩ b).setCell ⟨C + 1, 2, none⟩ c).cell? ⟨b1, q, none⟩ = w.cell? ⟨b1, q, none⟩ := fun q => by
          have hbw : Below w.heap.size w (((wo.setCell ⟨C + 1, 0, none⟩ a).setCell ⟨C + 1, 1, none⟩ b).setCell ⟨C + 1, 2, none⟩ c) := HB.out.trans (hb4.mono (by have := HC.out; omega))
          exact hbw.cell (p := ⟨b1, q, none⟩) hlt1
        rw [hk, hk, hk]; exact hc1 j hj
      have HBE : Hid (∀ a b c : Value, Below w.heap.size w (((wo.setCell ⟨C + 1, 0, none⟩ a).setCell ⟨C + 1, 1, none⟩ b).setCell ⟨C + 1, 2, none⟩ c)) := fun a b c =>
        (((HB.out.trans (HBW.out.mono HB.out.size)).setCell (by have := HC.out; simp; omega) _).setCell (by have := HC.out; simp; omega) _).setCell (by have := HC.out; simp; omega) _
      go_wp2_with fail
      exact bodyPost_ret (v := .agg #[.int .u64 (setN ks : Int), .func (.func 48) #[] #[.pointer (some ⟨C, 0, none⟩)], .func (.func 49) #[] #[.pointer (some ⟨C, 0, none⟩)]]) (by simp [results, Tryd.results29, go_sem, z0, z1, z2]) rfl ⟨C, rfl, HP3.out _ _ _, by have := HC.out; omega, HBE.out _ _ _⟩
set_option maxRecDepth 100000 in
set_option maxHeartbeats 4000000 in
theorem body_any (op err : Int) (w : World) : Calls Tryd.prog 15 #[.int .i64 op, .int .i64 err] w (togPost w.heap.size w (bodyK op err)) := by
  obtain ⟨C, hC⟩ : ∃ C, C = w.heap.size := ⟨_, rfl⟩
  obtain ⟨w0, hw0⟩ : ∃ w0, w0 = w.alloc (.cells #[.int .u64 0, .nilFunc, .nilFunc] 59) := ⟨_, rfl⟩
  have HB : Hid (Below w.heap.size w w0) := by show Below _ _ _; rw [hw0]; exact alloc_below _ _
  have HC := Lib.hid hC
  have HE : Hid (Cel3 w0 C (.int .u64 0) .nilFunc .nilFunc) := by show Cel3 _ _ _ _ _; rw [hw0, hC]; exact Cel3.new _ _ _ _ _
  have HFIN : Hid (∀ (wx : World) (g : Nat) (ks : List Nat) (a b c : Value), Below w0.heap.size w0 wx → PB w0.heap.size wx g ks → w0.heap.size ≤ g → w.heap.size ≤ g ∧ PB w.heap.size (((wx.setCell ⟨C, 0, none⟩ a).setCell ⟨C, 1, none⟩ b).setCell ⟨C, 2, none⟩ c) g ks ∧ Below w.heap.size w (((wx.setCell ⟨C, 0, none⟩ a).setCell ⟨C, 1, none⟩ b).setCell ⟨C, 2, none⟩ c)) := fun wx g ks a b c h1 h2 h3 => by
    have hCw : C < w0.heap.size := HE.out.lt
    have h0 := HB.out.size
    refine ⟨by omega, (h2.only ((((Only.refl (fun j => j = C) wx).put (ad := ⟨C, 0, none⟩) rfl a).put (ad := ⟨C, 1, none⟩) rfl b).put (ad := ⟨C, 2, none⟩) rfl c) (fun e => by omega) (fun j hj e => by omega)).mono h0, ?_⟩
    exact (((HB.out.trans (h1.mono h0)).setCell (by have := HC.out; simp; omega) _).setCell (by have := HC.out; simp; omega) _).setCell (by have := HC.out; simp; omega) _
  by_cases he : err = 0
  · have HK : Hid (bodyK op err = partsS op) := by show _ = _; unfold bodyK; rw [if_neg (by simpa using he)]
    have e1 : (err != 0) = false := by rw [he]; rfl
    have HPO := Lib.hid (fun W => partsOf_any op W)
    have hpl : (partsS op).length ≤ 1000 := by unfold partsS; repeat' split
                                               all_goals simp
    rw [HK.out]
    generalize partsS op = ks at *
    clear he
    go_enter Tryd.func15, Tryd.ntmps15
    go_upto_region 1 with fail
    rw [← hw0, ← hC]
    clear hw0 hC
    go_wp2_with fail
    with_reducible refine (HPO.out _).mono ?_
    rintro e w1 ⟨Z, zc, rfl, hrp, hzb, b1⟩
    have HRP := Lib.hid hrp; have HZB := Lib.hid hzb; have HB1 := Lib.hid b1
    clear hrp hzb b1
    go_wp2_with fail
    with_reducible refine (together_any w0.heap.size Z ks zc w1 HRP.out hpl HZB.out).mono ?_
    rintro e w2 ⟨g, rfl, hpb, hg, b2⟩
    have HB2 : Hid (Below w0.heap.size w0 w2) := HB1.out.trans (b2.mono HB1.out.size)
    have HF := Lib.hid (fun a b c => HFIN.out w2 g ks a b c HB2.out hpb (Nat.le_trans HB1.out.size hg))
    obtain ⟨z0, z1, z2, f0, f1, f2⟩ := HE.out.below HB2.out (Nat.le_refl _)
    clear hpb hg b2 HFIN
    unfold togV
    go_wp2_with fail
    exact bodyPost_ret (v := .agg #[.int .u64 (setN ks : Int), .func (.func 48) #[] #[.pointer (some ⟨g, 0, none⟩)], .func (.func 49) #[] #[.pointer (some ⟨g, 0, none⟩)]]) (by simp [results, Tryd.results15, go_sem, z0, z1, z2]) rfl ⟨g, rfl, (HF.out _ _ _).2.1, (HF.out .nilFunc .nilFunc .nilFunc).1, (HF.out _ _ _).2.2⟩
  · have HK : Hid (bodyK op err = []) := by show _ = _; unfold bodyK; rw [if_pos (by simpa using he)]
    have e1 : (err != 0) = true := by rw [bne_iff_ne]; exact he
    rw [HK.out]
    clear he
    go_enter Tryd.func15, Tryd.ntmps15
    go_upto_region 1 with fail
    rw [← hw0, ← hC]
    clear hw0 hC
    go_wp2_with fail
    refine (together_any w0.heap.size none [] 0 w0 (RP.nil _ _) (by simp) (fun a e => by cases e)).mono ?_
    rintro e w2 ⟨g, rfl, hpb, hg, b2⟩
    have HF := Lib.hid (fun a b c => HFIN.out w2 g [] a b c b2 hpb hg)
    obtain ⟨z0, z1, z2, f0, f1, f2⟩ := HE.out.below b2 (Nat.le_refl _)
    clear hpb hg b2 HFIN
    unfold togV
    go_wp2_with fail
    exact bodyPost_ret (v := .agg #[.int .u64 (setN [] : Int), .func (.func 48) #[] #[.pointer (some ⟨g, 0, none⟩)], .func (.func 49) #[] #[.pointer (some ⟨g, 0, none⟩)]]) (by simp [results, Tryd.results15, go_sem, z0, z1, z2]) rfl ⟨g, rfl, (HF.out _ _ _).2.1, (HF.out .nilFunc .nilFunc .nilFunc).1, (HF.out _ _ _).2.2⟩

end Go.Proofs.YthlfahblnpijaaaDoor.Sb
