/- Proves what the specification's only, allowed and Valid return, and the law's copies. Conditions: a command of bounded parts. -/
import Derived.Test.YtefadkdngcbpiaaDoorQca
import Derived.Test.YtefadkdngcbpiaaDoorQo
import Derived.Deep.Cut
import Derived.Test.YtefadkdngcbpiaaDoorQv
import Derived.Test.YtefadkdngcbpiaaDoorQr
import Derived.Deep.RegionHeld3
namespace Go.Proofs.YtefadkdngcbpiaaDoor.Qj
open Go.RowKit Vm Ap Vw Va Gc Mi Mb Qm Qs Qe Qo Qc

def onlyC (x out : Com) (l : UInt8) : Com :=
  if l = 107 then { out with c := { out.c with key := x.c.key } } else if l = 118 then { out with c := { out.c with value := x.c.value }, VA := x.VA, vc := x.vc } else if l = 116 then { out with c := { out.c with tags := x.c.tags }, TA := x.TA, tc := x.tc } else if l = 108 then { out with c := { out.c with life := x.c.life } } else if l = 110 then { out with c := { out.c with version := x.c.version } } else if l = 109 then { out with c := { out.c with keys := x.c.keys }, KA := x.KA, kc := x.kc } else if l = 103 then { out with c := { out.c with tag := x.c.tag } } else if l = 112 then { out with c := { out.c with pre := x.c.pre } } else if l = 99 then { out with c := { out.c with child := x.c.child } } else out
theorem onlyC_c (x out : Com) (l : UInt8) : (onlyC x out l).c = setP x.c out.c l := by
  unfold onlyC setP
  repeat' split
  all_goals first | rfl | omega
theorem onlyC_rc {w : World} {x out : Com} (hx : Rc w x) (ho : Rc w out) (l : UInt8) : Rc w (onlyC x out l) := by
  unfold onlyC
  repeat' split
  all_goals exact ⟨by first | exact ho.rk | exact hx.rk, by first | exact ho.nk | exact hx.nk, by first | exact ho.rv | exact hx.rv, by first | exact ho.nv | exact hx.nv, by first | exact ho.rt | exact hx.rt, by first | exact ho.nt | exact hx.nt⟩
theorem onlyC_bnd {x out : Com} (hx : Bnd x.c) (ho : Bnd out.c) (l : UInt8) : Bnd (onlyC x out l).c := by
  unfold onlyC
  repeat' split
  all_goals exact ⟨ho.op1, ho.op2, by first | exact ho.key | exact hx.key, by first | exact ho.child | exact hx.child, by first | exact ho.tag | exact hx.tag, by first | exact ho.pre | exact hx.pre, by first | exact ho.value | exact hx.value, by first | exact ho.keys | exact hx.keys, by first | exact ho.tags | exact hx.tags, by first | exact ho.eachK | exact hx.eachK, by first | exact ho.eachT | exact hx.eachT, by first | exact ho.life | exact hx.life, by first | exact ho.version | exact hx.version⟩
def onlyL (x : Com) (ls : Bs) : Com := ls.foldl (onlyC x) (startC x.c.op)
theorem onlyL_c (x : Com) (ls : Bs) : (onlyL x ls).c = ls.foldl (setP x.c) (bare x.c.op) := by
  unfold onlyL
  have h : ∀ (ls : Bs) (o : Com), (ls.foldl (onlyC x) o).c = ls.foldl (setP x.c) o.c := by
    intro ls
    induction ls with
    | nil => intro o; rfl
    | cons l r ih => intro o; rw [List.foldl_cons, List.foldl_cons, ih, onlyC_c]
  rw [h]; rfl
theorem onlyL_rc {w : World} {x : Com} (hx : Rc w x) (ls : Bs) : Rc w (onlyL x ls) := by
  unfold onlyL
  have h : ∀ (ls : Bs) (o : Com), Rc w o → Rc w (ls.foldl (onlyC x) o) := by
    intro ls
    induction ls with
    | nil => intro o ho; exact ho
    | cons l r ih => intro o ho; rw [List.foldl_cons]; exact ih _ (onlyC_rc hx ho l)
  exact h ls _ ⟨Rd.nil _ _, fun _ => rfl, Rb.nil _ _, fun _ => rfl, Rd.nil _ _, fun _ => rfl⟩
theorem bnd_start (op : Int) (h1 : -9223372036854775808 ≤ op) (h2 : op ≤ 9223372036854775807) : Bnd (bare op) :=
  ⟨h1, h2, Nat.zero_le _, Nat.zero_le _, Nat.zero_le _, Nat.zero_le _, Nat.zero_le _, Nat.zero_le _, Nat.zero_le _, (fun s hs => by cases hs), (fun s hs => by cases hs), (by show 0 < 18446744073709551616; omega), (by show 0 < 18446744073709551616; omega)⟩
theorem onlyL_bnd {x : Com} (hx : Bnd x.c) (ls : Bs) : Bnd (onlyL x ls).c := by
  unfold onlyL
  have h : ∀ (ls : Bs) (o : Com), Bnd o.c → Bnd (ls.foldl (onlyC x) o).c := by
    intro ls
    induction ls with
    | nil => intro o ho; exact ho
    | cons l r ih => intro o ho; rw [List.foldl_cons]; exact ih _ (onlyC_bnd hx ho l)
  exact h ls _ (bnd_start _ hx.op1 hx.op2)
theorem onlyL_next (x : Com) {ls : Bs} {k : Nat} (h : k < ls.length) : onlyL x (ls.take (k + 1)) = onlyC x (onlyL x (ls.take k)) ls[k] := by
  unfold onlyL; rw [List.take_succ_eq_append_getElem h, List.foldl_append]; rfl
theorem idx_let (ls : Bs) (k : Nat) (h : k < ls.length) (w : World) : (Instr.index 9 (.string ⟨ls.toArray⟩) (.int .i64 (k : Int))).run Tryd.prog w = .ok (.int .u8 (ls[k].toNat : Int)) w := by
  rw [run_index_string w 9 ⟨ls.toArray⟩ .i64 (k : Int) Tryd.underlying9]
  have : k < (⟨ls.toArray⟩ : ByteArray).size := by show k < ls.toArray.size; simpa using h
  simp [this]
  rfl
theorem needs_len (op : Int) : (needs op).length ≤ 5 := by
  unfold needs
  split
  · rename_i hi
    obtain ⟨k, hk, _, e⟩ := in_cases hi
    rw [e]
    exact (show ∀ k : Fin 15, (needsN k).length ≤ 5 by decide +kernel) ⟨k, hk⟩
  · simp
def onlyPost (w : World) (x : Com) : Ending → World → Prop := fun e w' => ∃ y, e = .returned (comV y) ∧ y.c = only x.c ∧ Rc w' y ∧ Bnd y.c ∧ Below w.heap.size w w'

set_option maxRecDepth 100000 in
set_option maxHeartbeats 8000000 in
theorem only_any (x : Com) (w : World) (hr : Rc w x) (hb : Bnd x.c) :
    Calls Tryd.prog 34 #[comV x] w (onlyPost w x) := by
  obtain ⟨C, hC⟩ : ∃ C, C = w.heap.size := ⟨_, rfl⟩
  obtain ⟨w0, hw0⟩ : ∃ w0, w0 = ((w.alloc (comO x)).alloc (comO zeroC)).alloc (comO (startC x.c.op)) := ⟨_, rfl⟩
  have B0 : Below w.heap.size w w0 := by rw [hw0]; exact (two_below w _ _).alloc (by simp; omega) _
  have BX0 : Box w0 C x := by rw [hw0, hC]; exact ((Box.new w x).below (alloc_below _ _) (Nat.le_refl _)).below (alloc_below _ _) (Nat.le_refl _)
  have BZ0 : Box w0 (C + 1) zeroC := by
    have hb := (Box.new (w.alloc (comO x)) zeroC).below (alloc_below _ (comO (startC x.c.op))) (Nat.le_refl _)
    have e : (w.alloc (comO x)).heap.size = w.heap.size + 1 := by simp
    rw [e] at hb
    rw [hw0, hC]; exact hb
  have BO0 : Box w0 (C + 2) (startC x.c.op) := by
    have hb := Box.new ((w.alloc (comO x)).alloc (comO zeroC)) (startC x.c.op)
    have e : ((w.alloc (comO x)).alloc (comO zeroC)).heap.size = w.heap.size + 2 := by simp
    rw [e] at hb
    rw [hw0, hC]; exact hb
  have e0 : comO zeroC = .cells #[.int .i64 0, .string ⟨#[]⟩, .slice none 0 0, .slice none 0 0, .slice none 0 0, .int .u64 0, .int .u64 0, .string ⟨#[]⟩, .string ⟨#[]⟩, .string ⟨#[]⟩] 28 := rfl
  have e1 : comO (startC x.c.op) = .cells #[.int .i64 x.c.op, .string ⟨#[]⟩, .slice none 0 0, .slice none 0 0, .slice none 0 0, .int .u64 0, .int .u64 0, .string ⟨#[]⟩, .string ⟨#[]⟩, .string ⟨#[]⟩] 28 := rfl
  have HX := Lib.hid BX0; have HZ := Lib.hid BZ0; have HO := Lib.hid BO0
  have HB0 := Lib.hid B0
  have HRW := Lib.hid (fun W (h : Below w.heap.size w W) => hr.below h (Nat.le_refl _))
  have HBD := Lib.hid hb
  have HNE := Lib.hid (fun W => needs_any x.c.op W)
  unfold needsS at HNE
  have HNI := Lib.hid (needs_nine x.c.op)
  have HON : Hid (only x.c = (needs x.c.op).foldl (setP x.c) (bare x.c.op)) := rfl
  have HN5 := needs_len x.c.op
  generalize needs x.c.op = ls at *
  have hll : ls.length ≤ 9223372036854775807 := by have := HN5; omega
  unfold comV
  rw [e0, e1] at hw0
  unfold comO at hw0
  clear e0 e1 B0 BZ0 BO0 hr hb
  obtain ⟨c0, c1, c2, c3, c4, c5, c6, c7, c8, c9, _⟩ := BX0
  go_enter Tryd.func34, Tryd.ntmps34
  go_upto_region 2 with fail
  rw [← hw0]
  rw [← hC]
  have HC := Lib.hid hC
  clear hw0 hC
  go_wp2_with fail
  refine (HNE.out _).mono ?_
  rintro e wx ⟨rfl, rfl⟩
  go_wp2_with fail
  go_loopw [5] (fun i wr => ∃ k : Nat, k ≤ ls.length ∧ i = .int .i64 (k : Int) ∧ Box wr (C + 2) (onlyL x (ls.take k)) ∧ Only (fun j => j = C + 2) w0 wr) (fun i _ => ls.length - (intOf i).toNat)
  case atStart => exact ⟨0, Nat.zero_le _, rfl, HO.out, Only.refl _ _⟩
  case round =>
    obtain ⟨k, hk, rfl, hbo, hon⟩ := hrel
    have HBO := Lib.hid hbo
    have HONL := Lib.hid hon
    have bxr := HX.out.only hon (by omega)
    clear c0 c1 c2 c3 c4 c5 c6 c7 c8 c9
    obtain ⟨c0, c1, c2, c3, c4, c5, c6, c7, c8, c9, _⟩ := bxr
    by_cases hlt : k < ls.length
    · have hi := fun W => idx_let ls k hlt W
      have HNX := Lib.hid (onlyL_next x hlt)
      have hn9 := HNI.out _ (List.getElem_mem hlt)
      have i1 : (k : Int) < ls.length := by omega
      obtain ⟨y, hy⟩ : ∃ y, y = ls[k] := ⟨_, rfl⟩
      rw [← hy] at hi HNX hn9
      clear hy
      obtain ⟨out, hout⟩ : ∃ out, out = onlyL x (ls.take k) := ⟨_, rfl⟩
      rw [← hout] at HBO HNX
      clear hout hbo hon
      unfold nine at hn9
      simp only [List.mem_cons, List.not_mem_nil, or_false] at hn9
      rcases hn9 with rfl | rfl | rfl | rfl | rfl | rfl | rfl | rfl | rfl
      · have hi' : ∀ W, (Instr.index 9 (.string ⟨ls.toArray⟩) (.int .i64 (k : Int))).run Tryd.prog W = .ok (.int .u8 107) W := hi
        have fz := HBO.out.un 1
        obtain ⟨x0, x1, x2, x3, x4, x5, x6, x7, x8, x9, _⟩ := HBO.out
        have HN : Hid (Box (wr.setCell ⟨C + 2, 1, none⟩ (.string ⟨x.c.key.toArray⟩)) (C + 2) (onlyL x (ls.take (k + 1)))) := by
          show Box _ _ _
          rw [HNX.out]
          exact Box_set0 HBO.out x.c.key
        have HO2 : Hid (Only (fun j => j = C + 2) w0 (wr.setCell ⟨C + 2, 1, none⟩ (.string ⟨x.c.key.toArray⟩))) := HONL.out.put rfl _
        clear hi
        go_wp2_with fail
        go_roundw
        case rel => exact ⟨k + 1, by omega, by go_num, HN.out, HO2.out⟩
        case measure => simp [intOf]; omega
      · have hi' : ∀ W, (Instr.index 9 (.string ⟨ls.toArray⟩) (.int .i64 (k : Int))).run Tryd.prog W = .ok (.int .u8 118) W := hi
        have fz := HBO.out.un 3
        obtain ⟨x0, x1, x2, x3, x4, x5, x6, x7, x8, x9, _⟩ := HBO.out
        have HN : Hid (Box (wr.setCell ⟨C + 2, 3, none⟩ (.slice x.VA x.c.value.length x.vc)) (C + 2) (onlyL x (ls.take (k + 1)))) := by
          show Box _ _ _
          rw [HNX.out]
          exact Box_set3 HBO.out x.c.value x.VA x.vc
        have HO2 : Hid (Only (fun j => j = C + 2) w0 (wr.setCell ⟨C + 2, 3, none⟩ (.slice x.VA x.c.value.length x.vc))) := HONL.out.put rfl _
        clear hi
        go_wp2_with fail
        go_roundw
        case rel => exact ⟨k + 1, by omega, by go_num, HN.out, HO2.out⟩
        case measure => simp [intOf]; omega
      · have hi' : ∀ W, (Instr.index 9 (.string ⟨ls.toArray⟩) (.int .i64 (k : Int))).run Tryd.prog W = .ok (.int .u8 116) W := hi
        have fz := HBO.out.un 4
        obtain ⟨x0, x1, x2, x3, x4, x5, x6, x7, x8, x9, _⟩ := HBO.out
        have HN : Hid (Box (wr.setCell ⟨C + 2, 4, none⟩ (.slice x.TA x.c.tags.length x.tc)) (C + 2) (onlyL x (ls.take (k + 1)))) := by
          show Box _ _ _
          rw [HNX.out]
          exact Box_set4 HBO.out x.c.tags x.TA x.tc
        have HO2 : Hid (Only (fun j => j = C + 2) w0 (wr.setCell ⟨C + 2, 4, none⟩ (.slice x.TA x.c.tags.length x.tc))) := HONL.out.put rfl _
        clear hi
        go_wp2_with fail
        go_roundw
        case rel => exact ⟨k + 1, by omega, by go_num, HN.out, HO2.out⟩
        case measure => simp [intOf]; omega
      · have hi' : ∀ W, (Instr.index 9 (.string ⟨ls.toArray⟩) (.int .i64 (k : Int))).run Tryd.prog W = .ok (.int .u8 108) W := hi
        have fz := HBO.out.un 5
        obtain ⟨x0, x1, x2, x3, x4, x5, x6, x7, x8, x9, _⟩ := HBO.out
        have HN : Hid (Box (wr.setCell ⟨C + 2, 5, none⟩ (.int .u64 (x.c.life : Int))) (C + 2) (onlyL x (ls.take (k + 1)))) := by
          show Box _ _ _
          rw [HNX.out]
          exact Box_set5 HBO.out x.c.life
        have HO2 : Hid (Only (fun j => j = C + 2) w0 (wr.setCell ⟨C + 2, 5, none⟩ (.int .u64 (x.c.life : Int)))) := HONL.out.put rfl _
        clear hi
        go_wp2_with fail
        go_roundw
        case rel => exact ⟨k + 1, by omega, by go_num, HN.out, HO2.out⟩
        case measure => simp [intOf]; omega
      · have hi' : ∀ W, (Instr.index 9 (.string ⟨ls.toArray⟩) (.int .i64 (k : Int))).run Tryd.prog W = .ok (.int .u8 110) W := hi
        have fz := HBO.out.un 6
        obtain ⟨x0, x1, x2, x3, x4, x5, x6, x7, x8, x9, _⟩ := HBO.out
        have HN : Hid (Box (wr.setCell ⟨C + 2, 6, none⟩ (.int .u64 (x.c.version : Int))) (C + 2) (onlyL x (ls.take (k + 1)))) := by
          show Box _ _ _
          rw [HNX.out]
          exact Box_set6 HBO.out x.c.version
        have HO2 : Hid (Only (fun j => j = C + 2) w0 (wr.setCell ⟨C + 2, 6, none⟩ (.int .u64 (x.c.version : Int)))) := HONL.out.put rfl _
        clear hi
        go_wp2_with fail
        go_roundw
        case rel => exact ⟨k + 1, by omega, by go_num, HN.out, HO2.out⟩
        case measure => simp [intOf]; omega
      · have hi' : ∀ W, (Instr.index 9 (.string ⟨ls.toArray⟩) (.int .i64 (k : Int))).run Tryd.prog W = .ok (.int .u8 109) W := hi
        have fz := HBO.out.un 2
        obtain ⟨x0, x1, x2, x3, x4, x5, x6, x7, x8, x9, _⟩ := HBO.out
        have HN : Hid (Box (wr.setCell ⟨C + 2, 2, none⟩ (.slice x.KA x.c.keys.length x.kc)) (C + 2) (onlyL x (ls.take (k + 1)))) := by
          show Box _ _ _
          rw [HNX.out]
          exact Box_set2 HBO.out x.c.keys x.KA x.kc
        have HO2 : Hid (Only (fun j => j = C + 2) w0 (wr.setCell ⟨C + 2, 2, none⟩ (.slice x.KA x.c.keys.length x.kc))) := HONL.out.put rfl _
        clear hi
        go_wp2_with fail
        go_roundw
        case rel => exact ⟨k + 1, by omega, by go_num, HN.out, HO2.out⟩
        case measure => simp [intOf]; omega
      · have hi' : ∀ W, (Instr.index 9 (.string ⟨ls.toArray⟩) (.int .i64 (k : Int))).run Tryd.prog W = .ok (.int .u8 103) W := hi
        have fz := HBO.out.un 7
        obtain ⟨x0, x1, x2, x3, x4, x5, x6, x7, x8, x9, _⟩ := HBO.out
        have HN : Hid (Box (wr.setCell ⟨C + 2, 7, none⟩ (.string ⟨x.c.tag.toArray⟩)) (C + 2) (onlyL x (ls.take (k + 1)))) := by
          show Box _ _ _
          rw [HNX.out]
          exact Box_set7 HBO.out x.c.tag
        have HO2 : Hid (Only (fun j => j = C + 2) w0 (wr.setCell ⟨C + 2, 7, none⟩ (.string ⟨x.c.tag.toArray⟩))) := HONL.out.put rfl _
        clear hi
        go_wp2_with fail
        go_roundw
        case rel => exact ⟨k + 1, by omega, by go_num, HN.out, HO2.out⟩
        case measure => simp [intOf]; omega
      · have hi' : ∀ W, (Instr.index 9 (.string ⟨ls.toArray⟩) (.int .i64 (k : Int))).run Tryd.prog W = .ok (.int .u8 112) W := hi
        have fz := HBO.out.un 8
        obtain ⟨x0, x1, x2, x3, x4, x5, x6, x7, x8, x9, _⟩ := HBO.out
        have HN : Hid (Box (wr.setCell ⟨C + 2, 8, none⟩ (.string ⟨x.c.pre.toArray⟩)) (C + 2) (onlyL x (ls.take (k + 1)))) := by
          show Box _ _ _
          rw [HNX.out]
          exact Box_set8 HBO.out x.c.pre
        have HO2 : Hid (Only (fun j => j = C + 2) w0 (wr.setCell ⟨C + 2, 8, none⟩ (.string ⟨x.c.pre.toArray⟩))) := HONL.out.put rfl _
        clear hi
        go_wp2_with fail
        go_roundw
        case rel => exact ⟨k + 1, by omega, by go_num, HN.out, HO2.out⟩
        case measure => simp [intOf]; omega
      · have hi' : ∀ W, (Instr.index 9 (.string ⟨ls.toArray⟩) (.int .i64 (k : Int))).run Tryd.prog W = .ok (.int .u8 99) W := hi
        have fz := HBO.out.un 9
        obtain ⟨x0, x1, x2, x3, x4, x5, x6, x7, x8, x9, _⟩ := HBO.out
        have HN : Hid (Box (wr.setCell ⟨C + 2, 9, none⟩ (.string ⟨x.c.child.toArray⟩)) (C + 2) (onlyL x (ls.take (k + 1)))) := by
          show Box _ _ _
          rw [HNX.out]
          exact Box_set1 HBO.out x.c.child
        have HO2 : Hid (Only (fun j => j = C + 2) w0 (wr.setCell ⟨C + 2, 9, none⟩ (.string ⟨x.c.child.toArray⟩))) := HONL.out.put rfl _
        clear hi
        go_wp2_with fail
        go_roundw
        case rel => exact ⟨k + 1, by omega, by go_num, HN.out, HO2.out⟩
        case measure => simp [intOf]; omega
    · obtain rfl : k = ls.length := by omega
      have hnn : ¬ (ls.length : Int) < ls.length := by omega
      have HL : Hid (ls.take ls.length = ls) := List.take_length
      rw [HL.out] at HBO
      have bz := HZ.out.only hon (by omega)
      clear hbo hon c0 c1 c2 c3 c4 c5 c6 c7 c8 c9
      have hyc := onlyL_c x ls
      have hyr := fun W (h : Below w.heap.size w W) => onlyL_rc (HRW.out W h) ls
      have hyb := onlyL_bnd HBD.out ls
      have HYC := Lib.hid hyc; have HYR := Lib.hid hyr; have HYB := Lib.hid hyb
      clear hyc hyr hyb
      generalize onlyL x ls = y at *
      obtain ⟨x0, x1, x2, x3, x4, x5, x6, x7, x8, x9, _⟩ := HBO.out
      obtain ⟨z0, z1, z2, z3, z4, z5, z6, z7, z8, z9, zun⟩ := bz
      have zu0 := zun 0; have zu1 := zun 1; have zu2 := zun 2; have zu3 := zun 3; have zu4 := zun 4; have zu5 := zun 5; have zu6 := zun 6; have zu7 := zun 7; have zu8 := zun 8; have zu9 := zun 9
      go_wp2_with fail
      have HF := put10 wr (C + 1) (.int .i64 y.c.op) (.string ⟨y.c.key.toArray⟩) (.slice y.KA y.c.keys.length y.kc) (.slice y.VA y.c.value.length y.vc) (.slice y.TA y.c.tags.length y.tc) (.int .u64 (y.c.life : Int)) (.int .u64 (y.c.version : Int)) (.string ⟨y.c.tag.toArray⟩) (.string ⟨y.c.pre.toArray⟩) (.string ⟨y.c.child.toArray⟩)
      have hcs := HC.out
      have HB1 : Below w.heap.size w wr := HB0.out.trans (HONL.out.below (fun j e => by omega) HB0.out.size)
      have HBF := HB1.trans (HF.below (B := w.heap.size) (fun j e => by omega) HB1.size)
      exact bodyPost_ret (v := comV y) (by unfold comV; simp [results, Tryd.results34, go_sem, z0, z1, z2, z3, z4, z5, z6, z7, z8, z9]) rfl ⟨y, rfl, by rw [HYC.out, HON.out], HYR.out _ HBF, HYB.out, HBF⟩
end Go.Proofs.YtefadkdngcbpiaaDoor.Qj
namespace Go.Proofs.YtefadkdngcbpiaaDoor.Qjb
open Go.RowKit Vm Ap Vw Va Gc Mi Mb Qm Qs Qe Qv

set_option maxRecDepth 100000 in
set_option maxHeartbeats 8000000 in
theorem allowed_any (x : Com) (y : UInt8) (hy : y ∈ nine) (w : World) (hr : Rc w x) (hb : Bnd x.c) :
    Calls Tryd.prog 36 #[comV x, .int .u8 (y.toNat : Int)] w (boolOf (allowR x.c y) w) := by
  unfold comV
  obtain ⟨w0, hw0⟩ : ∃ w0, w0 = w.alloc (comO x) := ⟨_, rfl⟩
  have B0 : Below w.heap.size w w0 := by rw [hw0]; exact alloc_below _ _
  have HB := Lib.hid B0
  have bx : Box w0 w.heap.size x := by rw [hw0]; exact Box.new _ _
  have HR := Lib.hid (hr.below B0 (Nat.le_refl _))
  have HD := Lib.hid hb
  obtain ⟨c0, c1, c2, c3, c4, c5, c6, c7, c8, c9, _⟩ := bx
  unfold comO at hw0
  have z3 := hb.value; have z2 := hb.keys; have z4 := hb.tags
  clear B0 hr hb
  unfold nine at hy
  simp only [List.mem_cons, List.not_mem_nil, or_false] at hy
  rcases hy with rfl | rfl | rfl | rfl | rfl | rfl | rfl | rfl | rfl
  · have HV : Hid (allowR x.c 107 = validK x.c.key) := rfl
    show Calls _ _ #[_, .int .u8 107] _ _
    have HQ := Lib.hid (rvalK_any x.c.key w0 (by have := HD.out.key; omega))
    go_enter Tryd.func36, Tryd.ntmps36
    go_upto_region 1 with fail
    rw [← hw0]
    clear hw0
    go_wp2_with fail
    refine HQ.out.mono ?_
    rintro e wx ⟨rfl, rfl⟩
    go_wp2_with fail
    go_ret
    exact ⟨ret_b HV.out.symm, HB.out⟩
  · have HV : Hid (allowR x.c 118 = decide (x.c.value.length ≤ 65536)) := rfl
    show Calls _ _ #[_, .int .u8 118] _ _
    go_enter Tryd.func36, Tryd.ntmps36
    go_upto_region 1 with fail
    rw [← hw0]
    clear hw0
    go_wp2_with fail
    go_ret
    exact ⟨ret_b (by rw [HV.out, Bool.eq_iff_iff]; simp; try omega), HB.out⟩
  · have HV : Hid (allowR x.c 116 = (x.c.tags.all validT && decide (x.c.tags.length ≤ 16))) := rfl
    show Calls _ _ #[_, .int .u8 116] _ _
    have HQ : Hid (∀ s ∈ x.c.tags, ∀ W, Calls Tryd.prog 48 #[.string ⟨s.toArray⟩] W fun e w' => e = .returned (.bool (validT s)) ∧ W = w') := fun s hs W => rvalT_any s W (by have := HD.out.eachT s hs; omega)
    go_enter Tryd.func36, Tryd.ntmps36
    go_upto_region 1 with fail
    rw [← hw0]
    clear hw0
    obtain ⟨g, hg⟩ : ∃ g, g = validT := ⟨_, rfl⟩
    rw [← hg] at HQ HV
    clear hg
    go_wp2_with fail
    go_loop [5] (fun i => ∃ k : Nat, k ≤ x.c.tags.length ∧ i = .int .i64 (k : Int) ∧ (x.c.tags.take k).all g = true) (fun i => x.c.tags.length - (intOf i).toNat)
    case atStart => exact ⟨0, Nat.zero_le _, rfl, rfl⟩
    case round =>
      obtain ⟨k, hk, rfl, ha⟩ := hrel
      have HL := Lib.hid ha; clear ha
      by_cases hlt : k < x.c.tags.length
      · obtain ⟨b, o, hA, hbl, hc⟩ := HR.out.rt.at_ hlt
        rw [hA] at c4
        have i1 : (k : Int) < x.c.tags.length := by omega
        have HS := Lib.hid (HQ.out _ (List.getElem_mem hlt))
        have HT : Hid (x.c.tags.take (k + 1) = x.c.tags.take k ++ [x.c.tags[k]]) := List.take_succ_eq_append_getElem hlt
        have HM := Lib.hid (List.getElem_mem hlt)
        obtain ⟨s, hs⟩ : ∃ s, s = x.c.tags[k] := ⟨_, rfl⟩
        rw [← hs] at hc HS HT HM
        clear hs hA
        cases hg : g s with
        | true =>
          have HN : Hid ((x.c.tags.take (k + 1)).all g = true) := by show _ = _; rw [HT.out, List.all_append, HL.out]; simp [hg]
          rw [hg] at HS
          clear hg
          go_wp2_with fail
          refine (HS.out _).mono ?_
          rintro e wx ⟨rfl, rfl⟩
          go_wp2_with fail
          go_round
          case rel => exact ⟨k + 1, by omega, by go_num, HN.out⟩
          case measure => simp [intOf]; omega
        | false =>
          have HN : Hid (x.c.tags.all g = false) := by show _ = _; rw [List.all_eq_false]; exact ⟨s, HM.out, by simp [hg]⟩
          rw [hg] at HS
          clear hg
          go_wp2_with fail
          refine (HS.out _).mono ?_
          rintro e wx ⟨rfl, rfl⟩
          go_wp2_with fail
          go_ret
          exact ⟨ret_b (by rw [HV.out, HN.out]; rfl), HB.out⟩
      · obtain rfl : k = x.c.tags.length := by omega
        have hnn : ¬ (x.c.tags.length : Int) < x.c.tags.length := by omega
        have HA : Hid (x.c.tags.all g = true) := by have := HL.out; rwa [List.take_length] at this
        go_wp2_with fail
        go_ret
        exact ⟨ret_b (by rw [HV.out, HA.out, Bool.eq_iff_iff]; simp; try omega), HB.out⟩
  · have HV : Hid (allowR x.c 108 = decide (x.c.life ≠ 0)) := rfl
    show Calls _ _ #[_, .int .u8 108] _ _
    go_enter Tryd.func36, Tryd.ntmps36
    go_upto_region 1 with fail
    rw [← hw0]
    clear hw0
    go_wp2_with fail
    go_ret
    exact ⟨ret_b (by rw [HV.out, Bool.eq_iff_iff]; simp; try omega), HB.out⟩
  · have HV : Hid (allowR x.c 110 = true) := rfl
    show Calls _ _ #[_, .int .u8 110] _ _
    go_enter Tryd.func36, Tryd.ntmps36
    go_upto_region 1 with fail
    rw [← hw0]
    clear hw0
    go_wp2_with fail
    go_ret
    exact ⟨ret_b HV.out.symm, HB.out⟩
  · have HV : Hid (allowR x.c 109 = (x.c.keys.all validK && (decide (1 ≤ x.c.keys.length) && decide (x.c.keys.length ≤ 16)))) := rfl
    show Calls _ _ #[_, .int .u8 109] _ _
    have HQ : Hid (∀ s ∈ x.c.keys, ∀ W, Calls Tryd.prog 47 #[.string ⟨s.toArray⟩] W fun e w' => e = .returned (.bool (validK s)) ∧ W = w') := fun s hs W => rvalK_any s W (by have := HD.out.eachK s hs; omega)
    go_enter Tryd.func36, Tryd.ntmps36
    go_upto_region 1 with fail
    rw [← hw0]
    clear hw0
    obtain ⟨g, hg⟩ : ∃ g, g = validK := ⟨_, rfl⟩
    rw [← hg] at HQ HV
    clear hg
    go_wp2_with fail
    go_loop [6] (fun i => ∃ k : Nat, k ≤ x.c.keys.length ∧ i = .int .i64 (k : Int) ∧ (x.c.keys.take k).all g = true) (fun i => x.c.keys.length - (intOf i).toNat)
    case atStart => exact ⟨0, Nat.zero_le _, rfl, rfl⟩
    case round =>
      obtain ⟨k, hk, rfl, ha⟩ := hrel
      have HL := Lib.hid ha; clear ha
      by_cases hlt : k < x.c.keys.length
      · obtain ⟨b, o, hA, hbl, hc⟩ := HR.out.rk.at_ hlt
        rw [hA] at c2
        have i1 : (k : Int) < x.c.keys.length := by omega
        have HS := Lib.hid (HQ.out _ (List.getElem_mem hlt))
        have HT : Hid (x.c.keys.take (k + 1) = x.c.keys.take k ++ [x.c.keys[k]]) := List.take_succ_eq_append_getElem hlt
        have HM := Lib.hid (List.getElem_mem hlt)
        obtain ⟨s, hs⟩ : ∃ s, s = x.c.keys[k] := ⟨_, rfl⟩
        rw [← hs] at hc HS HT HM
        clear hs hA
        cases hg : g s with
        | true =>
          have HN : Hid ((x.c.keys.take (k + 1)).all g = true) := by show _ = _; rw [HT.out, List.all_append, HL.out]; simp [hg]
          rw [hg] at HS
          clear hg
          go_wp2_with fail
          refine (HS.out _).mono ?_
          rintro e wx ⟨rfl, rfl⟩
          go_wp2_with fail
          go_round
          case rel => exact ⟨k + 1, by omega, by go_num, HN.out⟩
          case measure => simp [intOf]; omega
        | false =>
          have HN : Hid (x.c.keys.all g = false) := by show _ = _; rw [List.all_eq_false]; exact ⟨s, HM.out, by simp [hg]⟩
          rw [hg] at HS
          clear hg
          go_wp2_with fail
          refine (HS.out _).mono ?_
          rintro e wx ⟨rfl, rfl⟩
          go_wp2_with fail
          go_ret
          exact ⟨ret_b (by rw [HV.out, HN.out]; rfl), HB.out⟩
      · obtain rfl : k = x.c.keys.length := by omega
        have hnn : ¬ (x.c.keys.length : Int) < x.c.keys.length := by omega
        have HA : Hid (x.c.keys.all g = true) := by have := HL.out; rwa [List.take_length] at this
        by_cases h1 : 1 ≤ x.c.keys.length
        · have d1 : decide ((1 : Int) ≤ x.c.keys.length) = true := by simp; omega
          go_wp2_with fail
          go_ret
          exact ⟨ret_b (by rw [HV.out, HA.out, Bool.eq_iff_iff]; simp; try omega), HB.out⟩
        · have d1 : decide ((1 : Int) ≤ x.c.keys.length) = false := by simp; omega
          go_wp2_with fail
          go_ret
          exact ⟨ret_b (by rw [HV.out, HA.out]; simp [h1]), HB.out⟩
  · have HV : Hid (allowR x.c 103 = validT x.c.tag) := rfl
    show Calls _ _ #[_, .int .u8 103] _ _
    have HQ := Lib.hid (rvalT_any x.c.tag w0 (by have := HD.out.tag; omega))
    go_enter Tryd.func36, Tryd.ntmps36
    go_upto_region 1 with fail
    rw [← hw0]
    clear hw0
    go_wp2_with fail
    refine HQ.out.mono ?_
    rintro e wx ⟨rfl, rfl⟩
    go_wp2_with fail
    go_ret
    exact ⟨ret_b HV.out.symm, HB.out⟩
  · have HV : Hid (allowR x.c 112 = validP x.c.pre) := rfl
    show Calls _ _ #[_, .int .u8 112] _ _
    have HQ := Lib.hid (rvalP_any x.c.pre w0 (by have := HD.out.pre; omega))
    go_enter Tryd.func36, Tryd.ntmps36
    go_upto_region 1 with fail
    rw [← hw0]
    clear hw0
    go_wp2_with fail
    refine HQ.out.mono ?_
    rintro e wx ⟨rfl, rfl⟩
    go_wp2_with fail
    go_ret
    exact ⟨ret_b HV.out.symm, HB.out⟩
  · have HV : Hid (allowR x.c 99 = validK x.c.child) := rfl
    show Calls _ _ #[_, .int .u8 99] _ _
    have HQ := Lib.hid (rvalK_any x.c.child w0 (by have := HD.out.child; omega))
    go_enter Tryd.func36, Tryd.ntmps36
    go_upto_region 1 with fail
    rw [← hw0]
    clear hw0
    go_wp2_with fail
    refine HQ.out.mono ?_
    rintro e wx ⟨rfl, rfl⟩
    go_wp2_with fail
    go_ret
    exact ⟨ret_b HV.out.symm, HB.out⟩
end Go.Proofs.YtefadkdngcbpiaaDoor.Qjb
namespace Go.Proofs.YtefadkdngcbpiaaDoor.Qjc
open Go.RowKit Vm Ap Vw Va Gc Mi Mb Qm Qs Qe Qo Qc Qj

theorem below_drew {B : Nat} {a v : World} (h : Below B a v) : Below B a v.drew := h.drew
set_option maxRecDepth 100000 in
set_option maxHeartbeats 16000000 in
theorem rvalid_any (x : Com) (w : World) (hr : Rc w x) (hb : Bnd x.c) :
    Calls Tryd.prog 12 #[comV x] w (boolOf (validR x.c) w) := by
  obtain ⟨C, hC⟩ : ∃ C, C = w.heap.size := ⟨_, rfl⟩
  obtain ⟨w0, hw0⟩ : ∃ w0, w0 = w.alloc (comO x) := ⟨_, rfl⟩
  have B0 : Below w.heap.size w w0 := by rw [hw0]; exact alloc_below _ _
  have bx : Box w0 C x := by rw [hw0, hC]; exact Box.new _ _
  have HB0 := Lib.hid B0
  have HR := Lib.hid (hr.below B0 (Nat.le_refl _))
  have HD := Lib.hid hb
  have k0 : ∀ v, Below w0.heap.size w0 v → v.cell? ⟨C, 0, none⟩ = some (.int .i64 x.c.op) := fun v h => (bx.below h (Nat.le_refl _)).c0
  have k1 : ∀ v, Below w0.heap.size w0 v → v.cell? ⟨C, 1, none⟩ = some (.string ⟨x.c.key.toArray⟩) := fun v h => (bx.below h (Nat.le_refl _)).c1
  have k2 : ∀ v, Below w0.heap.size w0 v → v.cell? ⟨C, 2, none⟩ = some (.slice x.KA x.c.keys.length x.kc) := fun v h => (bx.below h (Nat.le_refl _)).c2
  have k3 : ∀ v, Below w0.heap.size w0 v → v.cell? ⟨C, 3, none⟩ = some (.slice x.VA x.c.value.length x.vc) := fun v h => (bx.below h (Nat.le_refl _)).c3
  have k4 : ∀ v, Below w0.heap.size w0 v → v.cell? ⟨C, 4, none⟩ = some (.slice x.TA x.c.tags.length x.tc) := fun v h => (bx.below h (Nat.le_refl _)).c4
  have k5 : ∀ v, Below w0.heap.size w0 v → v.cell? ⟨C, 5, none⟩ = some (.int .u64 (x.c.life : Int)) := fun v h => (bx.below h (Nat.le_refl _)).c5
  have k6 : ∀ v, Below w0.heap.size w0 v → v.cell? ⟨C, 6, none⟩ = some (.int .u64 (x.c.version : Int)) := fun v h => (bx.below h (Nat.le_refl _)).c6
  have k7 : ∀ v, Below w0.heap.size w0 v → v.cell? ⟨C, 7, none⟩ = some (.string ⟨x.c.tag.toArray⟩) := fun v h => (bx.below h (Nat.le_refl _)).c7
  have k8 : ∀ v, Below w0.heap.size w0 v → v.cell? ⟨C, 8, none⟩ = some (.string ⟨x.c.pre.toArray⟩) := fun v h => (bx.below h (Nat.le_refl _)).c8
  have k9 : ∀ v, Below w0.heap.size w0 v → v.cell? ⟨C, 9, none⟩ = some (.string ⟨x.c.child.toArray⟩) := fun v h => (bx.below h (Nat.le_refl _)).c9
  have HO : Hid (∀ W, Below w0.heap.size w0 W → Calls Tryd.prog 34 #[comV x] W (onlyPost W x)) := fun W h => only_any x W (HR.out.below h (Nat.le_refl _)) HD.out
  have HA : Hid (∀ y, y ∈ nine → ∀ W, Below w0.heap.size w0 W → Calls Tryd.prog 36 #[comV x, .int .u8 (y.toNat : Int)] W (boolOf (allowR x.c y) W)) := fun y hy W h => Qjb.allowed_any x y hy W (HR.out.below h (Nat.le_refl _)) HD.out
  have HE : Hid (∀ y W, Below w0.heap.size w0 W → Rc W y → Bnd y.c → Calls Tryd.prog 14 #[comV x, comV y] W (boolOf (eqC x.c y.c) W)) := fun y W h h1 h2 => Qr.requal_any x y W (HR.out.below h (Nat.le_refl _)) h1 HD.out h2
  have HNE := Lib.hid (fun W => needs_any x.c.op W)
  have HN5 := needs_len x.c.op
  have HNI := Lib.hid (needs_nine x.c.op)
  have HBX := Lib.hid bx
  unfold needsS at HNE
  unfold comV at HO HA HE ⊢
  unfold comO at hw0
  obtain ⟨c0, c1, c2, c3, c4, c5, c6, c7, c8, c9, _⟩ := bx
  by_cases hin : inOp x.c.op = true
  · have HV : Hid (validR x.c = (true && (eqC x.c (only x.c) && (needs x.c.op).all (allowR x.c)))) := by show _ = _; unfold validR; rw [hin]
    have hop : 1 ≤ x.c.op ∧ x.c.op ≤ 15 := by obtain ⟨k, hk, e, _⟩ := in_cases hin; omega
    obtain ⟨o1, o2⟩ := hop
    have d1 : decide (x.c.op < 1) = false := by simp; omega
    have d2 : decide (15 < x.c.op) = false := by simp; omega
    generalize needs x.c.op = ls at *
    clear hin B0 hr hb
    go_enter Tryd.func12, Tryd.ntmps12
    go_upto_region 1 with fail
    rw [← hw0, ← hC]
    have HC := Lib.hid hC
    clear hw0 hC
    refine wp_region_noPanic ?_
    refine wp_region_held_drew (S := fun v => Below w0.heap.size w0 v) (by kernel_rfl) ((Below.refl _ _).drew) (fun hHeld => ?_)
    refine wpAnyH_take (i := 0) (oi := ⟨some 5, _, _, _, _, _⟩) (v := ?_) rfl (by kernel_rfl) (by kernel_rfl) (by kernel_rfl) (fun _ _ _ h => h) (Or.inl ⟨by rfl, ?_⟩) (by assumption) ?_
    rotate_left
    · intro w hSw; go_simp; first | done | with_reducible rfl
    try simp only [Act.put, List.setIfInBounds_toArray, List.set_cons_zero, List.set_cons_succ]
    refine wpAnyH_take (i := 1) (oi := ⟨some 6, _, _, _, _, _⟩) (v := ?_) rfl (by kernel_rfl) (by kernel_rfl) (by kernel_rfl) (fun _ _ _ h => h) (Or.inl ⟨by rfl, ?_⟩) (by assumption) ?_
    rotate_left
    · intro w hSw; go_simp; first | done | with_reducible rfl
    try simp only [Act.put, List.setIfInBounds_toArray, List.set_cons_zero, List.set_cons_succ]
    refine wpAnyH_take (i := 2) (oi := ⟨some 7, _, _, _, _, _⟩) (v := ?_) rfl (by kernel_rfl) (by kernel_rfl) (by kernel_rfl) (fun _ _ _ h => h) (Or.inl ⟨by rfl, ?_⟩) (by assumption) ?_
    rotate_left
    · intro w hSw; go_simp; first | done | with_reducible rfl
    try simp only [Act.put, List.setIfInBounds_toArray, List.set_cons_zero, List.set_cons_succ]
    refine wpAnyH_take (i := 3) (oi := ⟨some 8, _, _, _, _, _⟩) (v := ?_) rfl (by kernel_rfl) (by kernel_rfl) (by kernel_rfl) (fun _ _ _ h => h) (Or.inl ⟨by rfl, ?_⟩) (by assumption) ?_
    rotate_left
    · intro w hSw; go_simp; first | done | with_reducible rfl
    try simp only [Act.put, List.setIfInBounds_toArray, List.set_cons_zero, List.set_cons_succ]
    refine wpAnyH_take (i := 4) (oi := ⟨some 9, _, _, _, _, _⟩) (v := ?_) rfl (by kernel_rfl) (by kernel_rfl) (by kernel_rfl) (fun _ _ _ h => h) (Or.inl ⟨by rfl, ?_⟩) (by assumption) ?_
    rotate_left
    · intro w hSw; go_simp; first | done | with_reducible rfl
    try simp only [Act.put, List.setIfInBounds_toArray, List.set_cons_zero, List.set_cons_succ]
    refine wpAnyH_take (i := 5) (oi := ⟨some 10, _, _, _, _, _⟩) (v := ?_) rfl (by kernel_rfl) (by kernel_rfl) (by kernel_rfl) (fun _ _ _ h => h) (Or.inl ⟨by rfl, ?_⟩) (by assumption) ?_
    rotate_left
    · intro w hSw; go_simp; first | done | with_reducible rfl
    try simp only [Act.put, List.setIfInBounds_toArray, List.set_cons_zero, List.set_cons_succ]
    refine wpAnyH_take (i := 6) (oi := ⟨some 11, _, _, _, _, _⟩) (v := ?_) rfl (by kernel_rfl) (by kernel_rfl) (by kernel_rfl) (fun _ _ _ h => h) (Or.inl ⟨by rfl, ?_⟩) (by assumption) ?_
    rotate_left
    · intro w hSw; go_simp; first | done | with_reducible rfl
    try simp only [Act.put, List.setIfInBounds_toArray, List.set_cons_zero, List.set_cons_succ]
    refine wpAnyH_take (i := 7) (oi := ⟨some 12, _, _, _, _, _⟩) (v := ?_) rfl (by kernel_rfl) (by kernel_rfl) (by kernel_rfl) (fun _ _ _ h => h) (Or.inl ⟨by rfl, ?_⟩) (by assumption) ?_
    rotate_left
    · intro w hSw; go_simp; first | done | with_reducible rfl
    try simp only [Act.put, List.setIfInBounds_toArray, List.set_cons_zero, List.set_cons_succ]
    refine wpAnyH_take (i := 8) (oi := ⟨some 13, _, _, _, _, _⟩) (v := ?_) rfl (by kernel_rfl) (by kernel_rfl) (by kernel_rfl) (fun _ _ _ h => h) (Or.inl ⟨by rfl, ?_⟩) (by assumption) ?_
    rotate_left
    · intro w hSw; go_simp; first | done | with_reducible rfl
    try simp only [Act.put, List.setIfInBounds_toArray, List.set_cons_zero, List.set_cons_succ]
    refine wpAnyH_take (i := 9) (oi := ⟨some 14, _, _, _, _, _⟩) (v := ?_) rfl (by kernel_rfl) (by kernel_rfl) (by kernel_rfl) (fun _ _ _ h => h) (Or.inl ⟨by rfl, ?_⟩) (by assumption) ?_
    rotate_left
    · intro w hSw; go_simp; first | done | with_reducible rfl
    try simp only [Act.put, List.setIfInBounds_toArray, List.set_cons_zero, List.set_cons_succ]
    refine wpAnyH_take (i := 10) (oi := ⟨some 15, _, _, _, _, _⟩) (v := ?_) rfl (by kernel_rfl) (by kernel_rfl) (by kernel_rfl) (fun _ _ _ h => h) (Or.inl ⟨by rfl, ?_⟩) (by assumption) ?_
    rotate_left
    · intro w hSw; go_simp; first | done | with_reducible rfl
    try simp only [Act.put, List.setIfInBounds_toArray, List.set_cons_zero, List.set_cons_succ]
    refine wpAnyH_ready (rs := [11]) (by kernel_rfl) (by simp) ?_
    refine AllReadyH.cons (o := ⟨some 16, _, _, _, _, _⟩) rfl (fun K hK => ?_) AllReadyH.nil
    go_simp
    with_reducible refine (HO.out _ hHeld).mono ?_
    rintro e w1 ⟨y, rfl, hyc, hyr, hyb, b1⟩
    unfold comV
    have HB1 : Hid (Below w0.heap.size w0 w1) := hHeld.trans (b1.mono hHeld.size)
    have HQ := Lib.hid (HE.out y w1 HB1.out hyr hyb)
    have hq : eqC x.c y.c = eqC x.c (only x.c) := by rw [hyc]
    rw [hq] at HQ
    clear hyc hyr hyb b1 hq
    generalize eqC x.c (only x.c) = q at *
    go_simp
    refine hK.out _ _ (HB1.out) (fun hHeld => ?_)
    clear hK K
    try simp only [Act.put, List.setIfInBounds_toArray, List.set_cons_zero, List.set_cons_succ]
    refine wpAnyH_ready (rs := [12]) (by kernel_rfl) (by simp) ?_
    refine AllReadyH.cons (o := ⟨some 17, _, _, _, _, _⟩) rfl (fun K hK => ?_) AllReadyH.nil
    go_simp
    with_reducible refine HQ.out.mono ?_
    rintro e w2 ⟨rfl, b2⟩
    have HB2 : Hid (Below w0.heap.size w0 w2) := HB1.out.trans (b2.mono HB1.out.size)
    clear b2
    go_simp
    refine hK.out _ _ (HB2.out) (fun hHeld => ?_)
    clear hK K
    try simp only [Act.put, List.setIfInBounds_toArray, List.set_cons_zero, List.set_cons_succ]
    refine wpAnyH_take (i := 13) (oi := ⟨some 18, _, _, _, _, _⟩) (v := ?_) rfl (by kernel_rfl) (by kernel_rfl) (by kernel_rfl) (fun _ _ _ h => h) (Or.inl ⟨by rfl, ?_⟩) (by assumption) ?_
    rotate_left
    · intro w hSw; go_simp; first | done | with_reducible rfl
    try simp only [Act.put, List.setIfInBounds_toArray, List.set_cons_zero, List.set_cons_succ]
    refine wpAnyH_take (i := 14) (oi := ⟨some 19, _, _, _, _, _⟩) (v := ?_) rfl (by kernel_rfl) (by kernel_rfl) (by kernel_rfl) (fun _ _ _ h => h) (Or.inl ⟨by rfl, ?_⟩) (by assumption) ?_
    rotate_left
    · intro w hSw; go_simp; first | done | with_reducible rfl
    try simp only [Act.put, List.setIfInBounds_toArray, List.set_cons_zero, List.set_cons_succ]
    refine wpAnyH_done (by kernel_rfl) ?_ _
    refine NoPanic.normal ?_
    clear HO HE HQ HB1
    cases q
    · go_wp2_with fail
      go_ret
      exact ⟨ret_b (by rw [HV.out]; rfl), HB0.out.trans (HB2.out.mono HB0.out.size)⟩
    · obtain ⟨c0, c1, c2, c3, c4, c5, c6, c7, c8, c9, _⟩ := HBX.out.below HB2.out (Nat.le_refl _)
      go_wp2_with fail
      refine (HNE.out _).mono ?_
      rintro e wx ⟨rfl, rfl⟩
      have hll : ls.length ≤ 9223372036854775807 := by omega
      go_wp2_with fail
      go_loopw [4] (fun i wr => ∃ k : Nat, k ≤ ls.length ∧ i = .int .i64 (k : Int) ∧ (ls.take k).all (allowR x.c) = true ∧ Below w0.heap.size w0 wr) (fun i _ => ls.length - (intOf i).toNat)
      case atStart => exact ⟨0, Nat.zero_le _, rfl, rfl, HB2.out⟩
      case round =>
        obtain ⟨k, hk, rfl, hal, hbw⟩ := hrel
        have HAL := Lib.hid hal; have HBW := Lib.hid hbw
        clear hal hbw
        by_cases hlt : k < ls.length
        · have hi := fun W => idx_let ls k hlt W
          have HT : Hid (ls.take (k + 1) = ls.take k ++ [ls[k]]) := List.take_succ_eq_append_getElem hlt
          have HM := Lib.hid (List.getElem_mem hlt)
          have i1 : (k : Int) < ls.length := by omega
          have hy9 := HNI.out _ (List.getElem_mem hlt)
          obtain ⟨y, hy⟩ : ∃ y, y = ls[k] := ⟨_, rfl⟩
          rw [← hy] at hi HT HM hy9
          have HAY := Lib.hid (HA.out y hy9)
          have hyl := y.toNat_lt
          obtain ⟨b, hbq⟩ : ∃ b, b = allowR x.c y := ⟨_, rfl⟩
          rw [← hbq] at HAY
          have HBQ := Lib.hid hbq
          clear hy hy9 hbq
          go_wp2_with fail
          refine wp_region_noPanic ?_
          refine wp_region_held_drew (S := fun v => Below w0.heap.size w0 v) (by kernel_rfl) (HBW.out.drew) (fun hHeld => ?_)
          refine wpAnyH_take (i := 0) (oi := ⟨some 29, _, _, _, _, _⟩) (v := ?_) rfl (by kernel_rfl) (by kernel_rfl) (by kernel_rfl) (fun _ _ _ h => h) (Or.inl ⟨by rfl, ?_⟩) (by assumption) ?_
          rotate_left
          · intro w hSw; go_simp; first | done | with_reducible rfl
          try simp only [Act.put, List.setIfInBounds_toArray, List.set_cons_zero, List.set_cons_succ]
          refine wpAnyH_take (i := 1) (oi := ⟨some 30, _, _, _, _, _⟩) (v := ?_) rfl (by kernel_rfl) (by kernel_rfl) (by kernel_rfl) (fun _ _ _ h => h) (Or.inl ⟨by rfl, ?_⟩) (by assumption) ?_
          rotate_left
          · intro w hSw; go_simp; first | done | with_reducible rfl
          try simp only [Act.put, List.setIfInBounds_toArray, List.set_cons_zero, List.set_cons_succ]
          refine wpAnyH_take (i := 2) (oi := ⟨some 31, _, _, _, _, _⟩) (v := ?_) rfl (by kernel_rfl) (by kernel_rfl) (by kernel_rfl) (fun _ _ _ h => h) (Or.inl ⟨by rfl, ?_⟩) (by assumption) ?_
          rotate_left
          · intro w hSw; go_simp; first | done | with_reducible rfl
          try simp only [Act.put, List.setIfInBounds_toArray, List.set_cons_zero, List.set_cons_succ]
          refine wpAnyH_take (i := 3) (oi := ⟨some 32, _, _, _, _, _⟩) (v := ?_) rfl (by kernel_rfl) (by kernel_rfl) (by kernel_rfl) (fun _ _ _ h => h) (Or.inl ⟨by rfl, ?_⟩) (by assumption) ?_
          rotate_left
          · intro w hSw; go_simp; first | done | with_reducible rfl
          try simp only [Act.put, List.setIfInBounds_toArray, List.set_cons_zero, List.set_cons_succ]
          refine wpAnyH_ready (rs := [4]) (by kernel_rfl) (by simp) ?_
          refine AllReadyH.cons (o := ⟨some 33, _, _, _, _, _⟩) rfl (fun K hK => ?_) AllReadyH.nil
          go_simp
          with_reducible refine (HAY.out _ hHeld).mono ?_
          rintro e w3 ⟨rfl, b3⟩
          have HB3 : Hid (Below w0.heap.size w0 w3) := hHeld.trans (b3.mono hHeld.size)
          clear b3
          go_simp
          refine hK.out _ _ (HB3.out) (fun hHeld => ?_)
          clear hK K
          try simp only [Act.put, List.setIfInBounds_toArray, List.set_cons_zero, List.set_cons_succ]
          refine wpAnyH_take (i := 5) (oi := ⟨some 34, _, _, _, _, _⟩) (v := ?_) rfl (by kernel_rfl) (by kernel_rfl) (by kernel_rfl) (fun _ _ _ h => h) (Or.inl ⟨by rfl, ?_⟩) (by assumption) ?_
          rotate_left
          · intro w hSw; go_simp; first | done | with_reducible rfl
          try simp only [Act.put, List.setIfInBounds_toArray, List.set_cons_zero, List.set_cons_succ]
          refine wpAnyH_done (by kernel_rfl) ?_ _
          refine NoPanic.normal ?_
          cases b
          · have HN : Hid (ls.all (allowR x.c) = false) := by show _ = _; rw [List.all_eq_false]; exact ⟨y, HM.out, by rw [← HBQ.out]; simp⟩
            go_wp2_with fail
            go_ret
            exact ⟨ret_b (by rw [HV.out, HN.out]; rfl), HB0.out.trans (HB3.out.mono HB0.out.size)⟩
          · have HN : Hid ((ls.take (k + 1)).all (allowR x.c) = true) := by show _ = _; rw [HT.out, List.all_append, HAL.out]; simp [← HBQ.out]
            go_wp2_with fail
            go_roundw
            case rel => exact ⟨k + 1, by omega, by go_num, HN.out, HB3.out⟩
            case measure => simp [intOf]; omega
        · obtain rfl : k = ls.length := by omega
          have hnn : ¬ (ls.length : Int) < ls.length := by omega
          have HN : Hid (ls.all (allowR x.c) = true) := by have := HAL.out; rwa [List.take_length] at this
          go_wp2_with fail
          go_ret
          exact ⟨ret_b (by rw [HV.out, HN.out]; rfl), HB0.out.trans (HBW.out.mono HB0.out.size)⟩
  · have HV : Hid (validR x.c = false) := by show _ = _; unfold validR; rw [show inOp x.c.op = false by simpa using hin]; rfl
    have hx : x.c.op < 1 ∨ 15 < x.c.op := by
      unfold inOp at hin
      simp only [Bool.and_eq_true, decide_eq_true_eq] at hin
      omega
    clear hin B0 hr hb k0 k1 k2 k3 k4 k5 k6 k7 k8 k9
    by_cases o1 : x.c.op < 1
    · have d1 : decide (x.c.op < 1) = true := by simpa using o1
      clear hx
      go_enter Tryd.func12, Tryd.ntmps12
      go_upto_region 1 with fail
      rw [← hw0, ← hC]
      have HC := Lib.hid hC
      clear hw0 hC
      go_quiet (fail)
      go_wp2_with fail
      go_ret
      exact ⟨ret_b HV.out.symm, below_drewN HB0.out _⟩
    · have o2 : 15 < x.c.op := by omega
      have d1 : decide (x.c.op < 1) = false := by simpa using o1
      have d2 : decide (15 < x.c.op) = true := by simpa using o2
      clear hx
      go_enter Tryd.func12, Tryd.ntmps12
      go_upto_region 1 with fail
      rw [← hw0, ← hC]
      have HC := Lib.hid hC
      clear hw0 hC
      go_quiet (fail)
      go_wp2_with fail
      go_ret
      exact ⟨ret_b HV.out.symm, below_drewN HB0.out _⟩
end Go.Proofs.YtefadkdngcbpiaaDoor.Qjc
namespace Go.Proofs.YtefadkdngcbpiaaDoor.Qjd
open Go.RowKit Vm Ap Vw Va Gc Mi Mb Qm Qs Qe Qc

/-- A command whose lists and value are rows of the call's own, one behind the other. -/
structure Cpy (B : Nat) (w : World) (y : Com) (b1 b2 : Nat) : Prop where
  ov : Own B w (.slice y.VA y.c.value.length y.vc) y.c.value
  ot : Ows b1 w (.slice y.TA y.c.tags.length y.tc) y.c.tags
  ok : Ows b2 w (.slice y.KA y.c.keys.length y.kc) y.c.keys
  h1 : B ≤ b1
  h2 : b1 ≤ b2
  hv : ∀ a, y.VA = some a → a.block < b1
  ht : ∀ a, y.TA = some a → a.block < b2
theorem Cpy.rc {B b1 b2 : Nat} {w : World} {y : Com} (h : Cpy B w y b1 b2) : Rc w y := by
  obtain ⟨A, c, s1⟩ := own_shape h.ov
  obtain ⟨A', c', s2⟩ := ows_shape h.ot
  obtain ⟨A'', c'', s3⟩ := ows_shape h.ok
  have e1 := s1.val; have e2 := s2.val; have e3 := s3.val
  simp only [Value.slice.injEq, true_and] at e1 e2 e3
  refine ⟨Rd.of_own h.ok, ?_, Rb.of_own h.ov, ?_, Rd.of_own h.ot, ?_⟩
  · intro e; rw [e3.2]; exact s3.non (by rw [← e3.1]; exact e)
  · intro e; rw [e1.2]; exact s1.non (by rw [← e1.1]; exact e)
  · intro e; rw [e2.2]; exact s2.non (by rw [← e2.1]; exact e)
theorem Cpy.below {B B' b1 b2 : Nat} {w w' : World} {y : Com} (h : Cpy B w y b1 b2) (hb : Below B' w w') (hB : w.heap.size ≤ B') : Cpy B w' y b1 b2 :=
  ⟨own_below h.ov hb hB, ows_below h.ot hb hB, ows_below h.ok hb hB, h.h1, h.h2, h.hv, h.ht⟩
def copyPost (w : World) (x : Com) : Ending → World → Prop := fun e w' => ∃ y b1 b2, e = .returned (comV y) ∧ y.c = x.c ∧ Cpy w.heap.size w' y b1 b2 ∧ Below w.heap.size w w'
theorem own_only {B : Nat} {w w' : World} {v : Value} {l : Bs} (hv : Own B w v l) {F : Nat → Prop} (ho : Only F w w') (hF : ∀ j, B ≤ j → ¬ F j) : Own B w' v l := by
  refine ⟨hv.1, ?_⟩
  rcases hv.2 with h2 | ⟨k, cap, cur, hv', hBg, hg, r⟩
  · exact Or.inl h2
  · have hlt : k < w.heap.size := (Array.getElem?_eq_some_iff.1 hg).1
    exact Or.inr ⟨k, cap, cur, hv', hBg, by rw [ho.block k hlt (hF k hBg)]; exact hg, r⟩
theorem ows_onl {B : Nat} {w w' : World} {v : Value} {l : List Bs} (hv : Ows B w v l) {F : Nat → Prop} (ho : Only F w w') (hF : ∀ j, B ≤ j → ¬ F j) : Ows B w' v l := by
  refine ⟨hv.1, ?_⟩
  rcases hv.2 with h2 | ⟨k, cap, cur, hv', hBg, hg, r⟩
  · exact Or.inl h2
  · have hlt : k < w.heap.size := (Array.getElem?_eq_some_iff.1 hg).1
    exact Or.inr ⟨k, cap, cur, hv', hBg, by rw [ho.block k hlt (hF k hBg)]; exact hg, r⟩

set_option maxRecDepth 100000 in
set_option maxHeartbeats 8000000 in
theorem copies_any (x : Com) (w : World) (hr : Rc w x) (hb : Bnd x.c) :
    Calls Tryd.prog 15 #[comV x] w (copyPost w x) := by
  obtain ⟨C, hC⟩ : ∃ C, C = w.heap.size := ⟨_, rfl⟩
  obtain ⟨w0, hw0⟩ : ∃ w0, w0 = (w.alloc (comO x)).alloc (comO zeroC) := ⟨_, rfl⟩
  have B0 : Below C w w0 := by rw [hw0, hC]; exact two_below w _ _
  have BX0 : Box w0 C x := by rw [hw0, hC]; exact (Box.new w x).below (alloc_below _ _) (Nat.le_refl _)
  have BZ0 : Box w0 (C + 1) zeroC := by
    have hb := Box.new (w.alloc (comO x)) zeroC
    have e : (w.alloc (comO x)).heap.size = w.heap.size + 1 := by simp
    rw [e] at hb
    rw [hw0, hC]; exact hb
  have hs0 : w0.heap.size = C + 2 := by rw [hw0, hC]; simp
  have e0 : comO zeroC = .cells #[.int .i64 0, .string ⟨#[]⟩, .slice none 0 0, .slice none 0 0, .slice none 0 0, .int .u64 0, .int .u64 0, .string ⟨#[]⟩, .string ⟨#[]⟩, .string ⟨#[]⟩] 28 := rfl
  have HX := Lib.hid BX0; have HZ := Lib.hid BZ0
  have HB0 := Lib.hid B0
  have HRW : Hid (∀ W, Below C w W → Rc W x) := fun W h => by rw [hC] at h; exact hr.below h (Nat.le_refl _)
  have HD := Lib.hid hb
  unfold comV
  rw [e0] at hw0
  unfold comO at hw0
  clear e0 B0 BZ0 hr hb
  obtain ⟨c0, c1, c2, c3, c4, c5, c6, c7, c8, c9, _⟩ := BX0
  go_enter Tryd.func15, Tryd.ntmps15
  go_upto_region 1 with fail
  rw [← hw0, ← hC]
  have HC := Lib.hid hC
  clear hw0 hC
  have fz := HX.out.un 3
  have z1 : x.c.value.length ≤ 1000000000 := by have := HD.out.value; omega
  have z2 : x.c.tags.length ≤ 1000000 := by have := HD.out.tags; omega
  have z3 : x.c.keys.length ≤ 1000000 := by have := HD.out.keys; omega
  have hs0' : C + 2 ≤ w0.heap.size := by omega
  clear hs0
  go_wp2_with (at_builtin; (refine wpList_from rfl _ _ rfl rfl (own_nil (C + 2) w0) x.c.value x.VA x.vc rfl (HRW.out _ HB0.out).nv (HRW.out _ HB0.out).rv (by simp) z1 hs0' ?_))
  intro v1 w1 h1 g1
  have hz1 := g1.size
  have A01 : Below w0.heap.size w0 w1 := below_of_grown g1 (Nat.le_refl _) (by intro k e; cases e)
  obtain ⟨V, vc, sh1⟩ := own_shape h1
  obtain rfl := sh1.val
  have hvb := sh1.base
  have bx1 := HX.out.below A01 (Nat.le_refl _)
  have bz1 := HZ.out.below A01 (Nat.le_refl _)
  have HB1 : Hid (Below C w (w1.setCell ⟨C, 3, none⟩ (.slice V x.c.value.length vc))) := (HB0.out.trans (A01.mono (by omega))).setCell (Nat.le_refl _) _
  have P1 : Only (fun j => j = C) w1 (w1.setCell ⟨C, 3, none⟩ (.slice V x.c.value.length vc)) := Only.put (F := fun j => j = C) (ad := ⟨C, 3, none⟩) (Only.refl _ _) rfl _
  have HX1 := Lib.hid (Box_set3 bx1 x.c.value V vc)
  have HZ1 := Lib.hid (bz1.only P1 (by omega))
  have OV1 := Lib.hid (own_only h1 P1 (by intro j hj e; omega))
  have VB := Lib.hid hvb
  have hsz1 : (w1.setCell ⟨C, 3, none⟩ (.slice V x.c.value.length vc)).heap.size = w1.heap.size := by simp
  obtain ⟨c0, c1, c2, c3, c4, c5, c6, c7, c8, c9, un1⟩ := bx1
  have fz1 := un1 3
  clear h1 g1 sh1 hvb A01 bz1 P1 fz
  go_upto_region 2 with fail
  obtain ⟨u1, hu1⟩ : ∃ u1, u1 = w1.setCell ⟨C, 3, none⟩ (.slice V x.c.value.length vc) := ⟨_, rfl⟩
  rw [← hu1] at HB1 HX1 HZ1 OV1 hsz1
  rw [← hu1]
  clear hu1 c0 c1 c2 c3 c4 c5 c6 c7 c8 c9 un1 fz1
  have bx1 := HX1.out
  obtain ⟨c0, c1, c2, c3, c4, c5, c6, c7, c8, c9, un1⟩ := bx1
  have fz1 := un1 4
  clear un1
  have hlu1 : C + 2 ≤ u1.heap.size := by omega
  have VB1 : Hid (∀ a, V = some a → a.block < u1.heap.size) := fun a ha => by have := (VB.out a ha).2; omega
  go_wp2_with (at_builtin; (refine wpList_strs rfl _ _ rfl rfl (ows_nil u1.heap.size u1) x.c.tags x.TA x.tc rfl (HRW.out _ HB1.out).nt (HRW.out _ HB1.out).rt (by simp) z2 (Nat.le_refl _) ?_))
  intro v2 w2 h2 g2
  have hz2 := g2.size
  have A12 : Below u1.heap.size u1 w2 := below_of_grown g2 (Nat.le_refl _) (by intro k e; cases e)
  obtain ⟨T, tc, sh2⟩ := ows_shape h2
  obtain rfl := sh2.val
  have htb := sh2.base
  have bx2 := HX1.out.below A12 (Nat.le_refl _)
  have bz2 := HZ1.out.below A12 (Nat.le_refl _)
  have ov2 := own_below OV1.out A12 (Nat.le_refl _)
  have HB2 : Hid (Below C w (w2.setCell ⟨C, 4, none⟩ (.slice T x.c.tags.length tc))) := (HB1.out.trans (A12.mono (by omega))).setCell (Nat.le_refl _) _
  have P2 : Only (fun j => j = C) w2 (w2.setCell ⟨C, 4, none⟩ (.slice T x.c.tags.length tc)) := Only.put (F := fun j => j = C) (ad := ⟨C, 4, none⟩) (Only.refl _ _) rfl _
  have HX2 := Lib.hid (Box_set4 bx2 x.c.tags T tc)
  have HZ2 := Lib.hid (bz2.only P2 (by omega))
  have OV2 := Lib.hid (own_only ov2 P2 (by intro j hj e; omega))
  have OT2 := Lib.hid (ows_onl h2 P2 (by intro j hj e; omega))
  have TB := Lib.hid htb
  have hsz2 : (w2.setCell ⟨C, 4, none⟩ (.slice T x.c.tags.length tc)).heap.size = w2.heap.size := by simp
  clear c0 c1 c2 c3 c4 c5 c6 c7 c8 c9 fz1
  obtain ⟨c0, c1, c2, c3, c4, c5, c6, c7, c8, c9, un1⟩ := bx2
  have fz1 := un1 4
  clear h2 g2 sh2 htb A12 bz2 P2 ov2
  go_upto_region 3 with fail
  obtain ⟨u2, hu2⟩ : ∃ u2, u2 = w2.setCell ⟨C, 4, none⟩ (.slice T x.c.tags.length tc) := ⟨_, rfl⟩
  rw [← hu2] at HB2 HX2 HZ2 OV2 OT2 hsz2
  rw [← hu2]
  clear hu2 c0 c1 c2 c3 c4 c5 c6 c7 c8 c9 un1 fz1
  have bx1 := HX2.out
  obtain ⟨c0, c1, c2, c3, c4, c5, c6, c7, c8, c9, un1⟩ := bx1
  have fz1 := un1 2
  clear un1
  have hlu2 : C + 2 ≤ u2.heap.size := by omega
  have TB2 : Hid (∀ a, T = some a → a.block < u2.heap.size) := fun a ha => by have := (TB.out a ha).2; omega
  have hu12 : u1.heap.size ≤ u2.heap.size := by omega
  go_wp2_with (at_builtin; (refine wpList_strs rfl _ _ rfl rfl (ows_nil u2.heap.size u2) x.c.keys x.KA x.kc rfl (HRW.out _ HB2.out).nk (HRW.out _ HB2.out).rk (by simp) z3 (Nat.le_refl _) ?_))
  intro v3 w3 h3 g3
  have hz3 := g3.size
  have A23 : Below u2.heap.size u2 w3 := below_of_grown g3 (Nat.le_refl _) (by intro k e; cases e)
  obtain ⟨K, kc, sh3⟩ := ows_shape h3
  obtain rfl := sh3.val
  have bx3 := HX2.out.below A23 (Nat.le_refl _)
  have bz3 := HZ2.out.below A23 (Nat.le_refl _)
  have ov3 := own_below OV2.out A23 (Nat.le_refl _)
  have ot3 := ows_below OT2.out A23 (Nat.le_refl _)
  have P3 : Only (fun j => j = C) w3 (w3.setCell ⟨C, 2, none⟩ (.slice K x.c.keys.length kc)) := Only.put (F := fun j => j = C) (ad := ⟨C, 2, none⟩) (Only.refl _ _) rfl _
  have HB3 : Hid (Below C w (w3.setCell ⟨C, 2, none⟩ (.slice K x.c.keys.length kc))) := (HB2.out.trans (A23.mono (by omega))).setCell (Nat.le_refl _) _
  have HX3 := Lib.hid (Box_set2 bx3 x.c.keys K kc)
  have HZ3 := Lib.hid (bz3.only P3 (by omega))
  have OV3 := Lib.hid (own_only ov3 P3 (by intro j hj e; omega))
  have OT3 := Lib.hid (ows_onl ot3 P3 (by intro j hj e; omega))
  have OK3 := Lib.hid (ows_onl h3 P3 (by intro j hj e; omega))
  clear c0 c1 c2 c3 c4 c5 c6 c7 c8 c9 fz1
  obtain ⟨c0, c1, c2, c3, c4, c5, c6, c7, c8, c9, un1⟩ := bx3
  have fz1 := un1 2
  clear h3 g3 sh3 A23 bz3 P3 ov3 ot3
  go_upto_region 4 with fail
  obtain ⟨u3, hu3⟩ : ∃ u3, u3 = w3.setCell ⟨C, 2, none⟩ (.slice K x.c.keys.length kc) := ⟨_, rfl⟩
  rw [← hu3] at HB3 HX3 HZ3 OV3 OT3 OK3
  rw [← hu3]
  clear hu3 c0 c1 c2 c3 c4 c5 c6 c7 c8 c9 un1 fz1
  have bx1 := HX3.out
  obtain ⟨c0, c1, c2, c3, c4, c5, c6, c7, c8, c9, _⟩ := bx1
  obtain ⟨z0, z1', z2', z3', z4, z5, z6, z7, z8, z9, zun⟩ := HZ3.out
  have zu0 := zun 0; have zu1 := zun 1; have zu2 := zun 2; have zu3 := zun 3; have zu4 := zun 4; have zu5 := zun 5; have zu6 := zun 6; have zu7 := zun 7; have zu8 := zun 8; have zu9 := zun 9
  go_wp2_with fail
  have HF := put10 u3 (C + 1) (.int .i64 x.c.op) (.string ⟨x.c.key.toArray⟩) (.slice K x.c.keys.length kc) (.slice V x.c.value.length vc) (.slice T x.c.tags.length tc) (.int .u64 (x.c.life : Int)) (.int .u64 (x.c.version : Int)) (.string ⟨x.c.tag.toArray⟩) (.string ⟨x.c.pre.toArray⟩) (.string ⟨x.c.child.toArray⟩)
  have hcs := HC.out
  refine bodyPost_ret (v := .agg #[.int .i64 x.c.op, .string ⟨x.c.key.toArray⟩, .slice K x.c.keys.length kc, .slice V x.c.value.length vc, .slice T x.c.tags.length tc, .int .u64 (x.c.life : Int), .int .u64 (x.c.version : Int), .string ⟨x.c.tag.toArray⟩, .string ⟨x.c.pre.toArray⟩, .string ⟨x.c.child.toArray⟩]) (by simp [results, Tryd.results15, go_sem, z0, z1', z2', z3', z4, z5, z6, z7, z8, z9]) rfl ⟨⟨x.c, K, kc, V, vc, T, tc⟩, w1.heap.size, w2.heap.size, rfl, rfl, ⟨own_base (own_only OV3.out HF (by intro j hj e; omega)) (by omega), ows_onl OT3.out HF (by intro j hj e; omega), ows_onl OK3.out HF (by intro j hj e; omega), by omega, by omega, fun a ha => by have := VB1.out a ha; omega, fun a ha => by have := TB2.out a ha; omega⟩, ?_⟩
  rw [← hcs]
  have hz := HB3.out.size
  exact HB3.out.trans (HF.below (B := C) (fun j e => by omega) (by omega))
end Go.Proofs.YtefadkdngcbpiaaDoor.Qjd
