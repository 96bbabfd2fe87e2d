/- Proves words for cells in memory: a slice that reads as a list of cells, a block known whole, and what becomes of both; the element types int and bool. Conditions: as each theorem names them. -/
import Derived.Test.YtmhbfplpodikiaaMi
import Derived.Test.YtmhbfplpodikiaaChecked
import Derived.WalkKit
import Derived.WalkSpells
import Derived.WalkLawsBesides
import Derived.Lib.Hide
import Derived.Below
import Derived.RegionTactic
import Derived.Deep.QuietTactic
import Derived.BigQuiet
namespace Go.Proofs.Ytmhbfplpodikiaa.Nw
open Go.RowKit Ap Mi

theorem retB {a b : Bool} (h : a = b) : Ending.returned (.bool a) = .returned (.bool b) := by rw [h]
theorem retI {k : IntKind} {a b : Int} (h : a = b) : Ending.returned (.int k a) = .returned (.int k b) := by rw [h]
theorem bnew (w : World) (o : Obj) : Below w.heap.size w (w.alloc o) := (Below.refl _ _).alloc (Nat.le_refl _) o
def boolTo (b : Bool) (w : World) : Ending → World → Prop := fun e w' => e = .returned (.bool b) ∧ Below w.heap.size w w'
theorem bstep {w a b : World} (h : Below w.heap.size w a) (k : Below a.heap.size a b) : Below w.heap.size w b := h.trans (k.mono h.size)
theorem bstepN {N : Nat} {w a b : World} (h : Below N w a) (hN : N ≤ w.heap.size) (k : Below a.heap.size a b) : Below N w b := h.trans (k.mono (Nat.le_trans hN h.size))
theorem add_lit (b o j : Nat) : (⟨b, o, none⟩ : Addr).add j = ⟨b, o + j, none⟩ := Mi.add_lit b o j

/-- The slice at A reads as the cells xs. -/
def Rl (w : World) (A : Option Addr) (xs : List Value) : Prop :=
  0 < xs.length → ∃ b o, A = some ⟨b, o, none⟩ ∧ b < w.heap.size ∧ ∀ j (h : j < xs.length), w.cell? ⟨b, o + j, none⟩ = some xs[j]
theorem Rl.nil (w : World) (A : Option Addr) : Rl w A [] := fun h => by simp at h
theorem Rl.below {w w' : World} {A : Option Addr} {xs : List Value} (h : Rl w A xs) {B : Nat} (hb : Below B w w') (hB : w.heap.size ≤ B) : Rl w' A xs := fun h0 => by
  obtain ⟨b, o, e, hlt, hc⟩ := h h0
  exact ⟨b, o, e, Nat.lt_of_lt_of_le hlt hb.size, fun j hj => by rw [hb.cell (by show b < B; omega)]; exact hc j hj⟩
theorem Rl.only {w w' : World} {A : Option Addr} {xs : List Value} (h : Rl w A xs) {F : Nat → Prop} (ho : Only F w w') (hn : ∀ a, A = some a → ¬ F a.block) : Rl w' A xs := fun h0 => by
  obtain ⟨b, o, rfl, hlt, hc⟩ := h h0
  exact ⟨b, o, rfl, Nat.lt_of_lt_of_le hlt ho.size, fun j hj => by rw [ho.cell (a := ⟨b, o + j, none⟩) hlt (hn ⟨b, o, none⟩ rfl)]; exact hc j hj⟩
theorem Rl.drewN {w : World} {A : Option Addr} {xs : List Value} (h : Rl w A xs) (n : Nat) : Rl (w.drewN n) A xs := h
theorem Rl.mine {B sz : Nat} {w : World} {A : Option Addr} {n c : Nat} {xs : List Value} (h : Mine B sz w A n c xs) : Rl w A xs := fun h0 => by
  cases A with
  | none =>
    have h1 := h.non rfl; have h2 := h.le; have h3 := h.len
    rw [show n = 0 from by omega] at h3; omega
  | some a =>
    obtain ⟨g, o, rfl, _, h2, _, h4⟩ := h.lies a rfl
    exact ⟨g, o, rfl, h2, h4⟩
/-- The cell at a place. -/
theorem Rl.at_ {w : World} {A : Option Addr} {xs : List Value} (h : Rl w A xs) {k : Nat} {v : Value} (hk : xs[k]? = some v) : ∃ b o, A = some ⟨b, o, none⟩ ∧ b < w.heap.size ∧ w.cell? ⟨b, o + k, none⟩ = some v := by
  obtain ⟨hlt, e⟩ := List.getElem?_eq_some_iff.1 hk
  obtain ⟨b, o, e1, h1, hc⟩ := h (by omega)
  exact ⟨b, o, e1, h1, by rw [hc k hlt, e]⟩
/-- A slice of n elements of sz cells each that reads as the cells xs. -/
structure Rs (w : World) (sz : Nat) (A : Option Addr) (n c : Nat) (xs : List Value) : Prop where
  rd : Rl w A xs
  len : xs.length = n * sz
  le : n ≤ c
  max : c ≤ maxLen
  non : A = none → c = 0
theorem Rs.nil (w : World) (sz : Nat) : Rs w sz none 0 0 [] := ⟨Rl.nil _ _, by simp, Nat.le_refl _, Nat.zero_le _, fun _ => rfl⟩
theorem Rs.below {w w' : World} {sz : Nat} {A : Option Addr} {n c : Nat} {xs : List Value} (h : Rs w sz A n c xs) {B : Nat} (hb : Below B w w') (hB : w.heap.size ≤ B) : Rs w' sz A n c xs := ⟨h.rd.below hb hB, h.len, h.le, h.max, h.non⟩
theorem Rs.only {w w' : World} {sz : Nat} {A : Option Addr} {n c : Nat} {xs : List Value} (h : Rs w sz A n c xs) {F : Nat → Prop} (ho : Only F w w') (hn : ∀ a, A = some a → ¬ F a.block) : Rs w' sz A n c xs := ⟨h.rd.only ho hn, h.len, h.le, h.max, h.non⟩
theorem Rs.mine {B sz : Nat} {w : World} {A : Option Addr} {n c : Nat} {xs : List Value} (h : Mine B sz w A n c xs) : Rs w sz A n c xs := ⟨Rl.mine h, h.len, h.le, h.max, h.non⟩
section
variable {P : Program}
/-- As a source of append. -/
theorem Rs.src {t e : TypeId} (hk : P.underlying t = some (.slice e)) {w : World} {sz : Nat} {A : Option Addr} {n c : Nat} {xs : List Value} (h : Rs w sz A n c xs) (hp : 0 < sz) (h1 : ∀ u ∈ xs, u.oneCell' = true) : Src P sz t (.slice A n c) n xs w := by
  have hlen := h.len
  cases A with
  | none =>
    have h0 : xs = [] := by
      rcases Nat.eq_zero_or_pos xs.length with h0 | h0
      · exact List.eq_nil_of_length_eq_zero h0
      · obtain ⟨_, _, e, _⟩ := h.rd h0; cases e
    subst h0
    have hn : n = 0 := by
      rcases Nat.eq_zero_or_pos n with h2 | h2
      · exact h2
      · have := Nat.mul_pos h2 hp; simp at hlen; omega
    subst hn
    rw [h.non rfl]
    exact Src.ofNil w hk 0
  | some a =>
    refine Src.ofSlice w hk a n c xs hlen (fun j u hu => ?_) h1
    obtain ⟨b, o, e, _, hc⟩ := h.rd.at_ hu
    injection e with e
    subst e
    rw [add_lit]; exact hc
end
/-- A block that is known whole. -/
def Blk (w : World) (g : Nat) (cs : Array Value) (t : TypeId) : Prop := w.heap[g]? = some (.cells cs t (0, 0))
theorem Blk.lt {w : World} {g : Nat} {cs : Array Value} {t : TypeId} (h : Blk w g cs t) : g < w.heap.size := (Array.getElem?_eq_some_iff.1 h).1
theorem Blk.cell {w : World} {g : Nat} {cs : Array Value} {t : TypeId} (h : Blk w g cs t) (i : Nat) : w.cell? ⟨g, i, none⟩ = cs[i]? := cell_of_row w g i _ _ _ h
theorem Blk.frozen {w : World} {g : Nat} {cs : Array Value} {t : TypeId} (h : Blk w g cs t) (i : Nat) : w.frozen? ⟨g, i, none⟩ = false := frozen_of_row w g i _ _ h
theorem Blk.below {w w' : World} {g : Nat} {cs : Array Value} {t : TypeId} (h : Blk w g cs t) {B : Nat} (hb : Below B w w') (hg : g < B) : Blk w' g cs t := by unfold Blk; rw [hb.block g hg]; exact h
theorem Blk.only {w w' : World} {g : Nat} {cs : Array Value} {t : TypeId} (h : Blk w g cs t) {F : Nat → Prop} (ho : Only F w w') (hn : ¬ F g) : Blk w' g cs t := by unfold Blk; rw [ho.block g h.lt hn]; exact h
theorem Blk.new (w : World) (cs : Array Value) (t : TypeId) : Blk (w.alloc (.cells cs t)) w.heap.size cs t := heap_alloc_new w _
theorem Blk.set {w : World} {g : Nat} {cs : Array Value} {t : TypeId} (h : Blk w g cs t) (i : Nat) (v : Value) : Blk (w.setCell ⟨g, i, none⟩ v) g (cs.setIfInBounds i v) t := heap_setCell_same w g i _ _ _ h
theorem Blk.drewN {w : World} {g : Nat} {cs : Array Value} {t : TypeId} (h : Blk w g cs t) (n : Nat) : Blk (w.drewN n) g cs t := h
/-- What a block of one to four cells says to a walk. -/
theorem Blk.one {w : World} {g : Nat} {a : Value} {t : TypeId} (h : Blk w g #[a] t) : w.cell? ⟨g, 0, none⟩ = some a ∧ w.frozen? ⟨g, 0, none⟩ = false := ⟨h.cell 0, h.frozen 0⟩
theorem Blk.two {w : World} {g : Nat} {a b : Value} {t : TypeId} (h : Blk w g #[a, b] t) : w.cell? ⟨g, 0, none⟩ = some a ∧ w.cell? ⟨g, 1, none⟩ = some b ∧ w.frozen? ⟨g, 0, none⟩ = false ∧ w.frozen? ⟨g, 1, none⟩ = false := ⟨h.cell 0, h.cell 1, h.frozen 0, h.frozen 1⟩
theorem Blk.three {w : World} {g : Nat} {a b c : Value} {t : TypeId} (h : Blk w g #[a, b, c] t) : w.cell? ⟨g, 0, none⟩ = some a ∧ w.cell? ⟨g, 1, none⟩ = some b ∧ w.cell? ⟨g, 2, none⟩ = some c ∧ w.frozen? ⟨g, 0, none⟩ = false ∧ w.frozen? ⟨g, 1, none⟩ = false ∧ w.frozen? ⟨g, 2, none⟩ = false := ⟨h.cell 0, h.cell 1, h.cell 2, h.frozen 0, h.frozen 1, h.frozen 2⟩
theorem Blk.four {w : World} {g : Nat} {a b c d : Value} {t : TypeId} (h : Blk w g #[a, b, c, d] t) : w.cell? ⟨g, 0, none⟩ = some a ∧ w.cell? ⟨g, 1, none⟩ = some b ∧ w.cell? ⟨g, 2, none⟩ = some c ∧ w.cell? ⟨g, 3, none⟩ = some d ∧ w.frozen? ⟨g, 0, none⟩ = false ∧ w.frozen? ⟨g, 1, none⟩ = false ∧ w.frozen? ⟨g, 2, none⟩ = false ∧ w.frozen? ⟨g, 3, none⟩ = false := ⟨h.cell 0, h.cell 1, h.cell 2, h.cell 3, h.frozen 0, h.frozen 1, h.frozen 2, h.frozen 3⟩
/-- A block of the call's own is written. -/
theorem only_own {w : World} {F : Nat → Prop} {g i : Nat} (hF : F g) (v : Value) : Only F w (w.setCell ⟨g, i, none⟩ v) := (Only.refl F w).put (ad := ⟨g, i, none⟩) hF v
/-- A shorter slice of the same row. -/
theorem shrink {B sz : Nat} {w : World} {A : Option Addr} {n c : Nat} {xs : List Value} (h : Mine B sz w A n c xs) {k : Nat} (hk : k ≤ n) : Mine B sz w A k c (xs.take (k * sz)) := by
  have hm : k * sz ≤ n * sz := Nat.mul_le_mul_right _ hk
  have hl := h.len
  refine ⟨Nat.le_trans hk h.le, h.max, by rw [List.length_take]; omega, h.non, fun a ha => ?_⟩
  obtain ⟨g, o, e, h1, h2, h3, h4⟩ := h.lies a ha
  exact ⟨g, o, e, h1, h2, h3, fun j hj => by rw [List.length_take] at hj; rw [List.getElem_take]; exact h4 j (by omega)⟩
/-- Where a row lies. -/
theorem mine_place {B sz : Nat} {w : World} {A : Option Addr} {n c : Nat} {xs : List Value} (h : Mine B sz w A n c xs) (h0 : 0 < xs.length) : ∃ g o, A = some ⟨g, o, none⟩ ∧ B ≤ g ∧ g < w.heap.size := by
  obtain ⟨b, o, e, _, _⟩ := Rl.mine h h0
  have := h.base e
  exact ⟨b, o, e, this.1, this.2.1⟩
/-- A cell of a row that may be written. -/
theorem mine_cell {B sz : Nat} {w : World} {g o n c : Nat} {xs : List Value} (h : Mine B sz w (some ⟨g, o, none⟩) n c xs) {k : Nat} {v : Value} (hk : xs[k]? = some v) : w.cell? ⟨g, o + k, none⟩ = some v ∧ w.frozen? ⟨g, o + k, none⟩ = false := by
  obtain ⟨hlt, e⟩ := List.getElem?_eq_some_iff.1 hk
  obtain ⟨g', o', e1, _, _, h3, h4⟩ := h.lies _ rfl
  injection e1 with e1 e2
  subst e1; subst e2
  have hm : n * sz ≤ c * sz := Nat.mul_le_mul_right _ h.le
  have hl := h.len
  exact ⟨by rw [h4 k hlt, e], (h3 k (by omega)).2⟩
theorem mine_put {B sz : Nat} {w : World} {g o n c : Nat} {xs ys : List Value} (h : Mine B sz w (some ⟨g, o, none⟩) n c xs) (k : Nat) (u : Value) (hk : k < xs.length) (e : xs.set k u = ys) : Mine B sz (w.setCell ⟨g, o + k, none⟩ u) (some ⟨g, o, none⟩) n c ys := e ▸ h.store k hk u
theorem mine_drew {B sz : Nat} {w : World} {A : Option Addr} {n c : Nat} {xs : List Value} (h : Mine B sz w A n c xs) : Mine B sz w.drew A n c xs := h.kept (fun _ _ => rfl) (Nat.le_refl _)
/-- A row that has just been laid, as a list. -/
theorem mine_laid {sz : Nat} (w : World) (cs : Array Value) (xs : List Value) (e : TypeId) (n : Nat) (hx : cs.toList = xs) (hn : xs.length = n * sz) (hm : n ≤ 1000000000) : Mine w.heap.size sz (w.alloc (.cells cs e)) (some ⟨w.heap.size, 0, none⟩) n n xs := by
  subst hx
  exact Mine.lit w cs e n (by simpa using hn) (by unfold maxLen; omega)
end Go.Proofs.Ytmhbfplpodikiaa.Nw
