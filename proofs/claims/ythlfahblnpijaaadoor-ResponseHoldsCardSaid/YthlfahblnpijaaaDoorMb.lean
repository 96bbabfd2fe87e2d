/- Proves that rows that may be written hold bytes, and how bytes that are read are a source of append. Condition: few bytes. No function of the program. -/
import Derived.Test.YthlfahblnpijaaaDoorMi
import Derived.Test.YthlfahblnpijaaaDoorGc
namespace Go.Proofs.YthlfahblnpijaaaDoor.Mb
open Go.RowKit Vm Ap Vw Va Gc Mi

theorem elmB : Elm Tryd.prog 29 5 (.int .u8 0) 1 where
  sl := Tryd.underlying29
  info := by kernel_rfl
  small := by
    have h : (Tryd.prog.info? 5).map (·.bytes) = some 1 := by kernel_rfl
    intro i hi; rw [hi] at h; simp at h; omega
  cells := rfl
  pos := by omega
/-- Bytes in a row that may be written. -/
abbrev MineB (B : Nat) (w : World) (A : Option Addr) (l : Bs) (c : Nat) : Prop := Mine B 1 w A l.length c (l.map byteV)
theorem rb_mine {B : Nat} {w : World} {A : Option Addr} {l : Bs} {c : Nat} (h : MineB B w A l c) : Rb w A l := fun h0 => by
  cases A with
  | none => have := h.non rfl; have := h.le; omega
  | some a =>
    obtain ⟨g, o, rfl, h1, h2, h3, h4⟩ := h.lies a rfl
    refine ⟨g, o, rfl, h2, fun j hj => ?_⟩
    rw [h4 j (by simpa using hj)]
    simp [byteV]
theorem fre_mine {B : Nat} {w : World} {A : Option Addr} {l : Bs} {c : Nat} (h : MineB B w A l c) : Fre B w A l c :=
  ⟨rb_mine h, h.non, fun _ ha => ⟨(h.base ha).1, (h.base ha).2.1⟩⟩
theorem mine_own {B : Nat} {w : World} {A : Option Addr} {l : Bs} {c : Nat} (h : Own B w (.slice A l.length c) l) : MineB B w A l c := by
  obtain ⟨A', c', e, hM, _⟩ := Mine.of_own (own_row h)
  injection e with e1 e2 e3
  subst e1; subst e3; exact hM
theorem cutM_one (A : Option Addr) (k c : Nat) : cutM A 1 k c = cutA A k c := by unfold cutM cutA; rw [Nat.mul_one]
theorem mine_cut {B : Nat} {w : World} {A : Option Addr} {l : Bs} {c : Nat} (h : MineB B w A l c) (k : Nat) (hk : k ≤ l.length) : MineB B w (cutA A k c) (l.drop k) (c - k) := by
  have := Mine.cut h k hk
  rw [cutM_one, Nat.mul_one, ← List.map_drop, ← List.length_drop] at this
  exact this
theorem bytes_one (l : Bs) : ∀ u ∈ l.map byteV, u.oneCell' = true := by intro u hu; obtain ⟨y, _, rfl⟩ := List.mem_map.1 hu; rfl
/-- Bytes that are read are a source of append. -/
theorem src_rb {w : World} {A : Option Addr} {l : Bs} {c : Nat} (h : Rb w A l) (hA : A = none → c = 0) : Src Tryd.prog 1 29 (.slice A l.length c) l.length (l.map byteV) w := by
  cases A with
  | none =>
    have h0 : l = [] := by
      rcases Nat.eq_zero_or_pos l.length with h0 | h0
      · exact List.eq_nil_of_length_eq_zero h0
      · obtain ⟨_, _, e, _⟩ := h h0; cases e
    subst h0
    rw [hA rfl]
    exact Src.ofNil w Tryd.underlying29 0
  | some a =>
    refine Src.ofSlice w Tryd.underlying29 a l.length c (l.map byteV) (by simp) (fun j u hu => ?_) (bytes_one l)
    rw [List.getElem?_map] at hu
    cases hj : l[j]? with
    | none => rw [hj] at hu; cases hu
    | some y =>
      rw [hj] at hu
      obtain ⟨hj1, hj2⟩ := List.getElem?_eq_some_iff.1 hj
      obtain ⟨b, o', e, _, hc⟩ := h (by omega)
      have e' : a = ⟨b, o', none⟩ := by injection e
      subst e'
      rw [Vw.add_plain, hc j hj1, hj2]
      simpa [byteV] using hu
/-- The same where the number of bytes is at hand. -/
theorem src_at {w : World} {A : Option Addr} {l : Bs} {c n : Nat} (hn : l.length = n) (h : Rb w A l) (hA : A = none → c = 0) : Src Tryd.prog 1 29 (.slice A n c) n (l.map byteV) w := by
  subst hn; exact src_rb h hA
theorem map_app (l m : Bs) : l.map byteV ++ m.map byteV = (l ++ m).map byteV := by rw [List.map_append]
/-- A row of bytes, of which one is written. -/
theorem mine_set {B g o c n : Nat} {w : World} {m : Bs} (hn : m.length = n) (h : Mine B 1 w (some ⟨g, o, none⟩) n c (m.map byteV)) (k x : Nat) (hk : k < n) (hx : x < 256) :
    Mine B 1 (w.setCell ⟨g, o + k, none⟩ (.int .u8 (x : Int))) (some ⟨g, o, none⟩) n c ((m.set k (UInt8.ofNat x)).map byteV) := by
  have := h.store k (by simp; omega) (.int .u8 (x : Int))
  rw [List.map_set, show byteV (UInt8.ofNat x) = .int .u8 (x : Int) from by unfold byteV; rw [of_nat hx]]
  exact this
theorem rb_only {w w' : World} {A : Option Addr} {l : Bs} (h : Rb w A l) {F : Nat → Prop} (ho : Only F w w') (hn : ∀ a, A = some a → ¬ F a.block) : Rb w' A l := fun h0 => by
  obtain ⟨b, o, rfl, hlt, hc⟩ := h h0
  exact ⟨b, o, rfl, Nat.lt_of_lt_of_le hlt ho.size, fun j hj => by rw [ho.cell (a := ⟨b, o + j, none⟩) hlt (hn ⟨b, o, none⟩ rfl)]; exact hc j hj⟩
theorem arg_only {w w' : World} {A : Option Addr} {l : Bs} {c : Nat} (h : Arg w A l c) {F : Nat → Prop} (ho : Only F w w') (hn : ∀ a, A = some a → ¬ F a.block) : Arg w' A l c := ⟨rb_only h.rd ho hn, h.le, h.max, h.non⟩
theorem arg_below {w w' : World} {A : Option Addr} {l : Bs} {c : Nat} (h : Arg w A l c) {B : Nat} (hb : Below B w w') (hB : w.heap.size ≤ B) : Arg w' A l c := ⟨h.rd.below hb hB, h.le, h.max, h.non⟩
theorem arg_mine {B : Nat} {w : World} {A : Option Addr} {l : Bs} {c : Nat} (h : MineB B w A l c) : Arg w A l c := ⟨rb_mine h, h.le, h.max, h.non⟩
theorem arg_cut {w : World} {A : Option Addr} {l : Bs} {c : Nat} (h : Arg w A l c) (k : Nat) (hk : k ≤ l.length) : Arg w (cutA A k c) (l.drop k) (c - k) :=
  ⟨h.rd.cut k c h.le, by rw [List.length_drop]; have := h.le; omega, by have := h.max; omega, fun e => by
    unfold cutA at e
    split at e
    · omega
    · rw [Option.map_eq_none_iff] at e; rw [h.non e]; omega⟩
/-- A block of three cells that may be written: what each holds. -/
structure Cel3 (w : World) (g : Nat) (x y z : Value) : Prop where
  c0 : w.cell? ⟨g, 0, none⟩ = some x
  c1 : w.cell? ⟨g, 1, none⟩ = some y
  c2 : w.cell? ⟨g, 2, none⟩ = some z
  f0 : w.frozen? ⟨g, 0, none⟩ = false
  f1 : w.frozen? ⟨g, 1, none⟩ = false
  f2 : w.frozen? ⟨g, 2, none⟩ = false
theorem Cel3.lt {w : World} {g : Nat} {x y z : Value} (h : Cel3 w g x y z) : g < w.heap.size := World.block_lt_of_cell? _ _ h.c0
theorem Cel3.only {w w' : World} {g : Nat} {x y z : Value} (h : Cel3 w g x y z) {F : Nat → Prop} (ho : Only F w w') (hn : ¬ F g) : Cel3 w' g x y z := by
  have hl := h.lt
  exact ⟨by rw [ho.cell (a := ⟨g, 0, none⟩) hl hn]; exact h.c0, by rw [ho.cell (a := ⟨g, 1, none⟩) hl hn]; exact h.c1, by rw [ho.cell (a := ⟨g, 2, none⟩) hl hn]; exact h.c2,
    by rw [ho.frozen (a := ⟨g, 0, none⟩) hl hn]; exact h.f0, by rw [ho.frozen (a := ⟨g, 1, none⟩) hl hn]; exact h.f1, by rw [ho.frozen (a := ⟨g, 2, none⟩) hl hn]; exact h.f2⟩
theorem Cel3.below {w w' : World} {g : Nat} {x y z : Value} (h : Cel3 w g x y z) {B : Nat} (hb : Below B w w') (hB : w.heap.size ≤ B) : Cel3 w' g x y z := h.only (Only.of_below hb hB (fun _ => False)) (fun hf => hf)
theorem Cel3.new (w : World) (x y z : Value) (t : TypeId) : Cel3 (w.alloc (.cells #[x, y, z] t)) w.heap.size x y z :=
  ⟨by rw [cell_of_row _ _ 0 _ _ (0, 0) (heap_alloc_new _ _)]; rfl, by rw [cell_of_row _ _ 1 _ _ (0, 0) (heap_alloc_new _ _)]; rfl, by rw [cell_of_row _ _ 2 _ _ (0, 0) (heap_alloc_new _ _)]; rfl,
    frozen_of_row _ _ 0 _ _ (heap_alloc_new _ _), frozen_of_row _ _ 1 _ _ (heap_alloc_new _ _), frozen_of_row _ _ 2 _ _ (heap_alloc_new _ _)⟩
theorem Cel3.set {w : World} {g : Nat} {x y z : Value} (h : Cel3 w g x y z) (x' y' z' : Value) : Cel3 (((w.setCell ⟨g, 0, none⟩ x').setCell ⟨g, 1, none⟩ y').setCell ⟨g, 2, none⟩ z') g x' y' z' :=
  ⟨by simp [go_sem, h.c0], by simp [go_sem, h.c1], by simp [go_sem, h.c2], by simp [go_sem, h.f0], by simp [go_sem, h.f1], by simp [go_sem, h.f2]⟩
theorem cel_only {w w' : World} {g : Nat} {x y : Value} (h : Cel w g x y) {F : Nat → Prop} (ho : Only F w w') (hn : ¬ F g) : Cel w' g x y := by
  have hl := h.lt
  exact ⟨by rw [ho.cell (a := ⟨g, 0, none⟩) hl hn]; exact h.c0, by rw [ho.cell (a := ⟨g, 1, none⟩) hl hn]; exact h.c1, by rw [ho.frozen (a := ⟨g, 0, none⟩) hl hn]; exact h.f0, by rw [ho.frozen (a := ⟨g, 1, none⟩) hl hn]; exact h.f1⟩
/-- Where the bytes of a slice lie: where those of another one do, or in new memory. -/
def From (A A' : Option Addr) (N : Nat) : Prop := ∀ a, A' = some a → (∃ a0, A = some a0 ∧ a0.block = a.block) ∨ N ≤ a.block
theorem From.same (A : Option Addr) (N : Nat) : From A A N := fun a ha => Or.inl ⟨a, ha, rfl⟩
theorem From.none (A : Option Addr) (N : Nat) : From A none N := fun a ha => by cases ha
theorem From.cut (A : Option Addr) (k c N : Nat) : From A (cutA A k c) N := fun _ ha => Or.inl (cutA_block ha)
end Go.Proofs.YthlfahblnpijaaaDoor.Mb
