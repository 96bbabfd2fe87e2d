/- Proves words for blocks of two cells, bytes of the call's own, a make of zeros, and append in a guarded operation of a region that draws its order. Conditions: few bytes. No function of the program. -/
import Derived.Test.YthlfahblnpijaaaDoorBa
namespace Go.Proofs.YthlfahblnpijaaaDoor.Gc
open Go.RowKit Vm Ap Vw Va

theorem below_new (w : World) (o : Obj) : Below w.heap.size w (w.alloc o) := (Below.refl _ _).alloc (Nat.le_refl _) o
def boolOf (b : Bool) (w : World) : Ending → World → Prop := fun e w' => e = .returned (.bool b) ∧ Below w.heap.size w w'
theorem two_below (w : World) (o p : Obj) : Below w.heap.size w ((w.alloc o).alloc p) := ((Below.refl _ _).alloc (Nat.le_refl _) o).alloc (by simp) p
/-- A block of two cells that may be written: what each holds. -/
structure Cel (w : World) (g : Nat) (x y : Value) : Prop where
  c0 : w.cell? ⟨g, 0, none⟩ = some x
  c1 : w.cell? ⟨g, 1, none⟩ = some y
  f0 : w.frozen? ⟨g, 0, none⟩ = false
  f1 : w.frozen? ⟨g, 1, none⟩ = false
theorem Cel.lt {w : World} {g : Nat} {x y : Value} (h : Cel w g x y) : g < w.heap.size := World.block_lt_of_cell? _ _ h.c0
theorem Cel.below {w w' : World} {g : Nat} {x y : Value} (h : Cel w g x y) {B : Nat} (hb : Below B w w') (hB : w.heap.size ≤ B) : Cel w' g x y := by
  have hl := h.lt
  have hg : g < B := by omega
  exact ⟨by rw [hb.cell (p := ⟨g, 0, none⟩) hg]; exact h.c0, by rw [hb.cell (p := ⟨g, 1, none⟩) hg]; exact h.c1, by rw [hb.frozen (p := ⟨g, 0, none⟩) hg]; exact h.f0, by rw [hb.frozen (p := ⟨g, 1, none⟩) hg]; exact h.f1⟩
theorem Cel.new (w : World) (x y : Value) (t : TypeId) : Cel (w.alloc (.cells #[x, y] t)) w.heap.size x y :=
  ⟨by rw [cell_of_row _ _ 0 _ _ (0, 0) (heap_alloc_new _ _)]; rfl, by rw [cell_of_row _ _ 1 _ _ (0, 0) (heap_alloc_new _ _)]; rfl, frozen_of_row _ _ 0 _ _ (heap_alloc_new _ _), frozen_of_row _ _ 1 _ _ (heap_alloc_new _ _)⟩
/-- Bytes of the call's own, that no older block holds. -/
structure Fre (B : Nat) (w : World) (A : Option Addr) (p : Bs) (k : Nat) : Prop where
  rd : Rb w A p
  non : A = none → k = 0
  base : ∀ a, A = some a → B ≤ a.block ∧ a.block < w.heap.size
theorem Fre.nil (B : Nat) (w : World) : Fre B w none [] 0 := ⟨Rb.nil _ _, fun _ => rfl, fun a e => by cases e⟩
theorem Cel.grown {w w' : World} {g r : Nat} {x y : Value} (h : Cel w g x y) (hg : w.grownBy w' (some r)) (hne : g ≠ r) : Cel w' g x y := by
  have hl := h.lt
  have hb := hg.block g hl (fun e => hne (by injection e))
  exact ⟨by rw [World.cell?_of_block (a := ⟨g, 0, none⟩) hb]; exact h.c0, by rw [World.cell?_of_block (a := ⟨g, 1, none⟩) hb]; exact h.c1, by rw [World.frozen?_of_block (a := ⟨g, 0, none⟩) hb]; exact h.f0, by rw [World.frozen?_of_block (a := ⟨g, 1, none⟩) hb]; exact h.f1⟩

theorem Cel.set {w : World} {g : Nat} {x y : Value} (h : Cel w g x y) (x' y' : Value) : Cel ((w.setCell ⟨g, 0, none⟩ x').setCell ⟨g, 1, none⟩ y') g x' y' :=
  ⟨by simp [go_sem, h.c0], by simp [go_sem, h.c1], by simp [go_sem, h.f0], by simp [go_sem, h.f1]⟩
theorem wrap_byte (x : Nat) : IntKind.u8.wrap ((x : Int) + 1) = (((x + 1) % 256 : Nat) : Int) := by rw [IntKind.wrap_u8']; omega
/-- 'make([]byte, n)': so many zeros. -/
theorem make_zeros (n : Nat) (w : World) (h : n ≤ 1000000000) : ∃ w1, (Instr.makeSlice 29 (.int .i64 (n : Int)) (.int .i64 (n : Int))).run Tryd.prog w = .ok (.slice (some ⟨w.heap.size, 0, none⟩) n n) w1 ∧ Rb w1 (some ⟨w.heap.size, 0, none⟩) (List.replicate n 0) ∧ Below w.heap.size w w1 := by
  have hi := elB.info
  rw [Option.map_eq_some_iff] at hi
  obtain ⟨i, hi1, hi2⟩ := hi
  simp only [Prod.mk.injEq] at hi2
  have hb := elB.small i hi1
  have hmul : i.bytes * n ≤ 1024 * 1000000000 := Nat.mul_le_mul hb h
  have hmul' : (i.bytes : Int) * (n : Int) ≤ 281474976710656 := by
    have h0 : ((i.bytes * n : Nat) : Int) ≤ 281474976710656 := by omega
    rwa [Int.natCast_mul] at h0
  have hr := run_make (P := Tryd.prog) w 29 5 i (.int .u8 0) elB.sl hi1 hi2.1 .i64 .i64 (n : Int) (n : Int) (by omega) (Int.le_refl _) hmul' (by omega)
  rw [Int.toNat_natCast, hi2.2, Nat.mul_one] at hr
  refine ⟨_, hr, fun _ => ⟨w.heap.size, 0, rfl, by simp, fun j hj => ?_⟩, below_new _ _⟩
  rw [List.length_replicate] at hj
  rw [Nat.zero_add, cell_of_row _ _ j _ _ (0, 0) (heap_alloc_new _ _)]
  simp [madeCells, hj, Value.cells, Nat.mod_one]
/-- 'append(out, s...)' in a region that draws its order, at the world at hand, guarded or not. -/
theorem step_guarded {ops : Array Oper} {o : Oper} {a : Act} {K : Act → World → Prop} {Q : Exit → Act → World → Prop} {E : Prop} {w : World} (hwd : Region.wanted o (yielded ops a.tmps) = true) (s x : Operand)
    (ho : o.op = .call { callee := .builtin .append, args := #[s, x], argTypes := #[29, 29] })
    {B : Nat} {v : Value} {l : Bs} (hs : a.eval s = v) (hown : Own B w v l) (m : Bs) (A : Option Addr) (c : Nat)
    (hx : a.eval x = .slice A m.length c) (hA : A = none → c = 0) (hr : Rb w A m) (hn : l.length ≤ 1000000000) (hm : m.length ≤ 1000000000) (hB : B ≤ w.heap.size)
    (h : ∀ v' w', Own B w' v' (l ++ m) → w.grownBy w' v.ownBlock → K (a.put o.dst v') w') :
    if Region.wanted o (yielded ops a.tmps) = true then Oper.wp Tryd.prog o a w K Q else E := by
  rw [if_pos hwd]
  have hi := elB.info
  rw [Option.map_eq_some_iff] at hi
  obtain ⟨i, hi1, hi2⟩ := hi
  simp only [Prod.mk.injEq] at hi2
  have hb := elB.small i hi1
  cases A with
  | none =>
    have hm0 : m = [] := by
      rcases Nat.eq_zero_or_pos m.length with h0 | h0
      · exact List.eq_nil_of_length_eq_zero h0
      · obtain ⟨_, _, e, _⟩ := hr h0; cases e
    subst hm0
    rw [hA rfl] at hx
    have hrun := run_append_owned_none (P := Tryd.prog) w B 29 o.type 5 i 1 elB.sl hi1 v _ _ (own_row hown)
    have hx' : a.eval x = .slice none 0 0 := hx
    have hk := h v w (by rw [List.append_nil]; exact hown) (World.grownBy.refl w _)
    unfold Oper.wp
    simp [execOp, ho, resolve, invoke, builtin, hs, hx', hrun, Result.andThen]
    exact hk
  | some ad =>
    have hcells : ∀ j u, (m.map byteV)[j]? = some u → w.cell? (ad.add j) = some u := by
      intro j u hu
      rw [List.getElem?_map] at hu
      cases hj : m[j]? with
      | none => rw [hj] at hu; cases hu
      | some y =>
        rw [hj] at hu
        obtain ⟨hj1, hj2⟩ := List.getElem?_eq_some_iff.1 hj
        obtain ⟨b, o', e, _, hc⟩ := hr (by omega)
        have e' : ad = ⟨b, o', none⟩ := by injection e
        subst e'
        rw [add_plain, hc j hj1, hj2]
        simpa [byteV] using hu
    have hmul : (l.length + m.length) * i.bytes ≤ 2000000000 * 1024 := Nat.mul_le_mul (by omega) hb
    refine wp_append_own _ s x _ ho B _ i (.int .u8 0) 1 i.bytes elB.sl hi1 hi2.1 hi2.2 rfl elB.one (by omega) v l.length (l.map byteV) hs (own_row hown) ad m.length c (m.map byteV) hx (by simp) hcells (by intro u hu; obtain ⟨y, _, rfl⟩ := List.mem_map.1 hu; rfl) (by unfold maxLen; omega) (by omega) hB ?_
    intro v' w' h2 h3 _
    refine h v' w' ?_ h3
    unfold Own
    rw [List.length_append, List.map_append]
    exact h2

end Go.Proofs.YthlfahblnpijaaaDoor.Gc
