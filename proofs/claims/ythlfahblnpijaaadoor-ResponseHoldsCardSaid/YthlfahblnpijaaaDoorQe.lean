/- Proves words for commands in memory and for the table of the Ops, and what the small functions of package request return: known, has, Word. Condition: the table holds the rows. -/
import Derived.Test.YthlfahblnpijaaaDoorQm
import Derived.Test.YthlfahblnpijaaaDoorQs
import Derived.Laws.BitsAllLaws
namespace Go.Proofs.YthlfahblnpijaaaDoor.Qe
open Go.RowKit Vm Ap Vw Va Gc Mi Mb Qm Qs

/-- A command as it stands in memory: its parts, and where its lists and its value lie. -/
structure Com where
  c : Cmd
  KA : Option Addr
  kc : Nat
  VA : Option Addr
  vc : Nat
  TA : Option Addr
  tc : Nat
/-- Its lists and its value read as they should. -/
structure Rc (w : World) (x : Com) : Prop where
  rk : Rd w x.KA x.c.keys
  nk : x.KA = none → x.kc = 0
  rv : Rb w x.VA x.c.value
  nv : x.VA = none → x.vc = 0
  rt : Rd w x.TA x.c.tags
  nt : x.TA = none → x.tc = 0
theorem Rc.below {w w' : World} {x : Com} (h : Rc w x) {B : Nat} (hb : Below B w w') (hB : w.heap.size ≤ B) : Rc w' x :=
  ⟨h.rk.below hb hB, h.nk, h.rv.below hb hB, h.nv, h.rt.below hb hB, h.nt⟩
theorem Rc.drewN {w : World} {x : Com} (h : Rc w x) (n : Nat) : Rc (w.drewN n) x := ⟨h.rk, h.nk, h.rv, h.nv, h.rt, h.nt⟩
/-- What a command's parts are at most. -/
structure Bnd (c : Cmd) : Prop where
  op1 : -9223372036854775808 ≤ c.op
  op2 : c.op ≤ 9223372036854775807
  key : c.key.length ≤ 1000000
  child : c.child.length ≤ 1000000
  tag : c.tag.length ≤ 1000000
  pre : c.pre.length ≤ 1000000
  value : c.value.length ≤ 1000000
  keys : c.keys.length ≤ 1000
  tags : c.tags.length ≤ 1000
  eachK : ∀ s ∈ c.keys, s.length ≤ 1000000
  eachT : ∀ s ∈ c.tags, s.length ≤ 1000000
  life : c.life < 18446744073709551616
  version : c.version < 18446744073709551616
def comV (x : Com) : Value := .agg #[.int .i64 x.c.op, .string ⟨x.c.key.toArray⟩, .slice x.KA x.c.keys.length x.kc, .slice x.VA x.c.value.length x.vc, .slice x.TA x.c.tags.length x.tc, .int .u64 (x.c.life : Int), .int .u64 (x.c.version : Int), .string ⟨x.c.tag.toArray⟩, .string ⟨x.c.pre.toArray⟩, .string ⟨x.c.child.toArray⟩]
/-- A block that holds a command. -/
structure Box (w : World) (g : Nat) (x : Com) : Prop where
  c0 : w.cell? ⟨g, 0, none⟩ = some (.int .i64 x.c.op)
  c1 : w.cell? ⟨g, 1, none⟩ = some (.string ⟨x.c.key.toArray⟩)
  c2 : w.cell? ⟨g, 2, none⟩ = some (.slice x.KA x.c.keys.length x.kc)
  c3 : w.cell? ⟨g, 3, none⟩ = some (.slice x.VA x.c.value.length x.vc)
  c4 : w.cell? ⟨g, 4, none⟩ = some (.slice x.TA x.c.tags.length x.tc)
  c5 : w.cell? ⟨g, 5, none⟩ = some (.int .u64 (x.c.life : Int))
  c6 : w.cell? ⟨g, 6, none⟩ = some (.int .u64 (x.c.version : Int))
  c7 : w.cell? ⟨g, 7, none⟩ = some (.string ⟨x.c.tag.toArray⟩)
  c8 : w.cell? ⟨g, 8, none⟩ = some (.string ⟨x.c.pre.toArray⟩)
  c9 : w.cell? ⟨g, 9, none⟩ = some (.string ⟨x.c.child.toArray⟩)
  un : ∀ j, w.frozen? ⟨g, j, none⟩ = false
def comO (x : Com) : Obj := .cells #[.int .i64 x.c.op, .string ⟨x.c.key.toArray⟩, .slice x.KA x.c.keys.length x.kc, .slice x.VA x.c.value.length x.vc, .slice x.TA x.c.tags.length x.tc, .int .u64 (x.c.life : Int), .int .u64 (x.c.version : Int), .string ⟨x.c.tag.toArray⟩, .string ⟨x.c.pre.toArray⟩, .string ⟨x.c.child.toArray⟩] 43
theorem Box.new (w : World) (x : Com) : Box (w.alloc (comO x)) w.heap.size x := by
  unfold comO
  constructor
  case un => exact fun j => frozen_of_row _ _ j _ _ (heap_alloc_new _ _)
  all_goals (rw [cell_of_row _ _ _ _ _ (0, 0) (heap_alloc_new _ _)]; rfl)
theorem Box.lt {w : World} {g : Nat} {x : Com} (h : Box w g x) : g < w.heap.size := World.block_lt_of_cell? _ _ h.c0
theorem Box.only {w w' : World} {g : Nat} {x : Com} (h : Box w g x) {F : Nat → Prop} (ho : Only F w w') (hn : ¬ F g) : Box w' g x := by
  have hl := h.lt
  have hc : ∀ j, w'.cell? ⟨g, j, none⟩ = w.cell? ⟨g, j, none⟩ := fun j => ho.cell (a := ⟨g, j, none⟩) hl hn
  exact ⟨(hc 0).trans h.c0, (hc 1).trans h.c1, (hc 2).trans h.c2, (hc 3).trans h.c3, (hc 4).trans h.c4, (hc 5).trans h.c5, (hc 6).trans h.c6, (hc 7).trans h.c7, (hc 8).trans h.c8, (hc 9).trans h.c9, fun j => (ho.frozen (a := ⟨g, j, none⟩) hl hn).trans (h.un j)⟩
theorem Box.below {w w' : World} {g : Nat} {x : Com} (h : Box w g x) {B : Nat} (hb : Below B w w') (hB : w.heap.size ≤ B) : Box w' g x := h.only (Only.of_below hb hB (fun _ => False)) (fun hf => hf)
theorem Rc.only {w w' : World} {x : Com} (h : Rc w x) {F : Nat → Prop} (ho : Only F w w') (h1 : ∀ a, x.KA = some a → ¬ F a.block) (h2 : ∀ a, x.VA = some a → ¬ F a.block) (h3 : ∀ a, x.TA = some a → ¬ F a.block) : Rc w' x :=
  ⟨h.rk.only ho h1, h.nk, rb_only h.rv ho h2, h.nv, h.rt.only ho h3, h.nt⟩

/-! The table. -/
def wordL : Nat → Bs
  | 0 => [115, 101, 116] | 1 => [97, 100, 100] | 2 => [99, 97, 115] | 3 => [103, 101, 116] | 4 => [109, 103, 101, 116] | 5 => [116, 111, 117, 99, 104] | 6 => [100, 101, 108] | 7 => [112, 117, 114, 103, 101] | 8 => [115, 111, 102, 116] | 9 => [112, 114, 101, 102, 105, 120]
  | 10 => [100, 101, 112, 97, 100, 100] | 11 => [100, 101, 112, 100, 101, 108] | 12 => [105, 110, 118, 97, 108, 105, 100, 97, 116, 101] | 13 => [102, 108, 117, 115, 104] | _ => [115, 116, 97, 116, 115]
def wordS (k : Nat) : ByteArray := ⟨(wordL k).toArray⟩
def rowsCells : Array Value := #[.string (wordS 0), .int .u64 57, .string (wordS 1), .int .u64 57, .string (wordS 2), .int .u64 121, .string (wordS 3), .int .u64 1, .string (wordS 4), .int .u64 4, .string (wordS 5), .int .u64 33, .string (wordS 6), .int .u64 1, .string (wordS 7), .int .u64 128, .string (wordS 8), .int .u64 128, .string (wordS 9), .int .u64 256, .string (wordS 10), .int .u64 3, .string (wordS 11), .int .u64 3, .string (wordS 12), .int .u64 1, .string (wordS 13), .int .u64 0, .string (wordS 14), .int .u64 0]
/-- What the walks ask of the world: the table is laid. -/
structure Env (w : World) : Prop where
  tab : ∃ t fr, w.heap[(0 : Nat)]? = some (.cells rowsCells t fr)
theorem Env.size {w : World} (h : Env w) : 0 < w.heap.size := by
  obtain ⟨t, fr, hf⟩ := h.tab
  exact (Array.getElem?_eq_some_iff.1 hf).1
theorem Env.below {w w' : World} {B : Nat} (h : Env w) (hb : Below B w w') (hB : w.heap.size ≤ B) : Env w' := by
  have h1 := h.size
  obtain ⟨t, fr, hf⟩ := h.tab
  exact ⟨⟨t, fr, by rw [hb.block _ (by omega)]; exact hf⟩⟩
theorem Env.drewN {w : World} (h : Env w) (n : Nat) : Env (w.drewN n) := ⟨h.tab⟩
theorem Env.word {w : World} (h : Env w) (k : Nat) (hk : k < 15) : w.cell? ⟨0, k * 2, none⟩ = some (.string (wordS k)) := by
  obtain ⟨t, fr, hf⟩ := h.tab
  rw [cell_of_row w _ (k * 2) rowsCells _ fr hf]
  match k, hk with
  | 0, _ | 1, _ | 2, _ | 3, _ | 4, _ | 5, _ | 6, _ | 7, _ | 8, _ | 9, _ | 10, _ | 11, _ | 12, _ | 13, _ | 14, _ => rfl
  | k + 15, h => omega
theorem Env.mask {w : World} (h : Env w) (k : Nat) (hk : k < 15) : w.cell? ⟨0, k * 2 + 1, none⟩ = some (.int .u64 (maskN k : Int)) := by
  obtain ⟨t, fr, hf⟩ := h.tab
  rw [cell_of_row w _ (k * 2 + 1) rowsCells _ fr hf]
  match k, hk with
  | 0, _ | 1, _ | 2, _ | 3, _ | 4, _ | 5, _ | 6, _ | 7, _ | 8, _ | 9, _ | 10, _ | 11, _ | 12, _ | 13, _ | 14, _ => rfl
  | k + 15, h => omega

theorem and_bit : ∀ k : Fin 15, ∀ i : Fin 9, ((maskN k &&& 2 ^ i.val : Nat) != 0) = hasP k i := by decide +kernel
theorem mask_lt : ∀ k : Fin 15, maskN k < 512 := by decide +kernel
set_option maxHeartbeats 400000 in
theorem has_any (k i : Nat) (p : Int) (w : World) (hk : k < 15) (hi : i < 9) (hp : ((2 ^ i : Nat) : Int) = p) :
    Calls Tryd.prog 36 #[.int .u64 (maskN k : Int), .int .u64 p] w fun e w' => e = .returned (.bool (hasP k i)) ∧ w = w' := by
  have h1 := mask_lt ⟨k, hk⟩
  have h2 := and_bit ⟨k, hk⟩ ⟨i, hi⟩
  simp only at h1 h2
  have h3 : 2 ^ i < 512 := Nat.lt_of_lt_of_le (Nat.pow_lt_pow_right (by omega) hi) (by decide)
  have HA : Hid (bits .and .u64 (maskN k : Int) p = ((maskN k &&& 2 ^ i : Nat) : Int)) := by
    show _ = _
    rw [← hp]; exact u64_and_nat _ _ (by omega) (by omega)
  have H2 := Lib.hid h2
  clear h2
  go_enter Tryd.func36, Tryd.ntmps36
  go_wp2_with fail
  go_ret
  refine ⟨ret_b ?_, rfl⟩
  rw [HA.out, ← H2.out, Bool.eq_iff_iff]
  simp
set_option maxHeartbeats 400000 in
theorem known_op (op : Int) (w : World) :
    Calls Tryd.prog 24 #[.int .i64 op] w fun e w' => e = .returned (.bool (inOp op)) ∧ w = w' := by
  by_cases h : 1 ≤ op
  · have HI : Hid (inOp op = decide (op ≤ 15)) := by show _ = _; unfold inOp; simp [h]
    go_enter Tryd.func24, Tryd.ntmps24
    go_wp2_with fail
    go_ret
    exact ⟨ret_b HI.out.symm, rfl⟩
  · have HI : Hid (inOp op = false) := by show _ = _; unfold inOp; simp [h]
    have h' : op < 1 := by omega
    clear h
    go_enter Tryd.func24, Tryd.ntmps24
    go_wp2_with fail
    go_ret
    exact ⟨ret_b HI.out.symm, rfl⟩
/-- The word of an Op, or the empty one and an error. -/
def wordR (op : Int) : Value := if inOp op then .tuple #[.string (wordS (kx op)), .int .i64 0] else .tuple #[.string ⟨#[]⟩, .int .i64 2]
end Go.Proofs.YthlfahblnpijaaaDoor.Qe
