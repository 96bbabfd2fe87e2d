/- Proves words for lists of slots with deadlines in memory, the order of deadlines, and what the specification's small functions return for them. Conditions: as each theorem names them. -/
import Derived.Test.YtpalbccoiejmoaaNw
import Derived.BigQuiet
import Derived.Deep.QuietTactic
namespace Go.Proofs.Ytpalbccoiejmoaa.Ya
open Go.RowKit Ap Mi Nw

/-- A slot with its deadline. -/
abbrev Td := Int × Int
def tv (l : List Td) : List Value := l.flatMap fun x => [.int .i64 x.1, .int .u64 x.2]
theorem tv_len : ∀ (l : List Td), (tv l).length = l.length * 2
  | [] => rfl
  | x :: r => by
    have := tv_len r
    unfold tv at this ⊢
    rw [List.flatMap_cons, List.length_append, this]; simp; omega
theorem tv_get : ∀ (l : List Td) (k : Nat) (hk : k < l.length), (tv l)[k * 2]? = some (.int .i64 l[k].1) ∧ (tv l)[k * 2 + 1]? = some (.int .u64 l[k].2)
  | [], _, hk => by simp at hk
  | x :: r, 0, _ => ⟨rfl, rfl⟩
  | x :: r, k + 1, hk => by
    have := tv_get r k (by simpa using hk)
    rw [show (k + 1) * 2 = k * 2 + 1 + 1 from by omega]
    unfold tv at this ⊢
    rw [List.flatMap_cons]
    exact this
theorem tv_one (l : List Td) : ∀ u ∈ tv l, u.oneCell' = true := fun u hu => by
  obtain ⟨x, _, h⟩ := List.mem_flatMap.1 hu
  simp only [List.mem_cons, List.not_mem_nil, or_false] at h
  rcases h with h | h <;> (rw [h]; rfl)
theorem tv_append (l m : List Td) : tv (l ++ m) = tv l ++ tv m := List.flatMap_append
theorem tv_take : ∀ (l : List Td) (k : Nat), (tv l).take (k * 2) = tv (l.take k)
  | [], k => by simp [tv]
  | x :: r, 0 => by simp [tv]
  | x :: r, k + 1 => by
    have := tv_take r k
    rw [show (k + 1) * 2 = k * 2 + 1 + 1 from by omega]
    show List.take (k * 2 + 1 + 1) (.int .i64 x.1 :: .int .u64 x.2 :: tv r) = .int .i64 x.1 :: .int .u64 x.2 :: tv (r.take k)
    rw [List.take_succ_cons, List.take_succ_cons, this]
theorem tv_drop : ∀ (l : List Td) (k : Nat), (tv l).drop (k * 2) = tv (l.drop k)
  | [], k => by simp [tv]
  | x :: r, 0 => by simp [tv]
  | x :: r, k + 1 => by
    have := tv_drop r k
    rw [show (k + 1) * 2 = k * 2 + 1 + 1 from by omega]
    show List.drop (k * 2 + 1 + 1) (.int .i64 x.1 :: .int .u64 x.2 :: tv r) = tv (r.drop k)
    rw [List.drop_succ_cons, List.drop_succ_cons, this]
/-- A slice that reads as a list of slots with deadlines. -/
def Lt (w : World) (A : Option Addr) (l : List Td) (c : Nat) : Prop := Rs w 2 A l.length c (tv l)
theorem Lt.below {w w' : World} {A : Option Addr} {l : List Td} {c B : Nat} (h : Lt w A l c) (hb : Below B w w') (hB : w.heap.size ≤ B) : Lt w' A l c := Rs.below h hb hB
theorem Lt.only {w w' : World} {A : Option Addr} {l : List Td} {c : Nat} (h : Lt w A l c) {F : Nat → Prop} (ho : Only F w w') (hn : ∀ a, A = some a → ¬ F a.block) : Lt w' A l c := Rs.only h ho hn
theorem Lt.nil (w : World) : Lt w none [] 0 := Rs.nil w 2
theorem Lt.at_ {w : World} {A : Option Addr} {l : List Td} {c : Nat} (h : Lt w A l c) {i : Nat} (hi : i < l.length) : ∃ b o, A = some ⟨b, o, none⟩ ∧ b < w.heap.size ∧ w.cell? ⟨b, o + i * 2, none⟩ = some (.int .i64 l[i].1) ∧ w.cell? ⟨b, o + i * 2 + 1, none⟩ = some (.int .u64 l[i].2) := by
  obtain ⟨h0, h1⟩ := tv_get l i hi
  obtain ⟨b, o, e, lb, c0⟩ := (Rs.rd h).at_ h0
  obtain ⟨b', o', e', _, c1⟩ := (Rs.rd h).at_ h1
  rw [e] at e'
  injection e' with e'; injection e' with e1 e2
  subst e1; subst e2
  exact ⟨b, o, e, lb, c0, by rw [Nat.add_assoc]; exact c1⟩
theorem Lt.mine {B : Nat} {w : World} {A : Option Addr} {c : Nat} {l : List Td} (h : Mine B 2 w A l.length c (tv l)) : Lt w A l c := Rs.mine h
theorem elT : Elm Try.prog 26 41 (.agg #[.int .i64 0, .int .u64 0]) 2 where
  sl := Try.underlying26
  info := by kernel_rfl
  small := by
    have h : (Try.prog.info? 41).map (·.bytes) = some 16 := by kernel_rfl
    intro i hi; rw [hi] at h; simp at h; omega
  cells := rfl
  pos := by omega
/-- A beginning and an end of a slice. -/
theorem rs_pre {w : World} {sz : Nat} {A : Option Addr} {n c : Nat} {xs : List Value} (h : Rs w sz A n c xs) {k : Nat} (hk : k ≤ n) : Rs w sz A k c (xs.take (k * sz)) := by
  have hm : k * sz ≤ n * sz := Nat.mul_le_mul_right _ hk
  have hl := h.len
  refine ⟨fun h0 => ?_, by rw [List.length_take]; omega, Nat.le_trans hk h.le, h.max, h.non⟩
  rw [List.length_take] at h0
  obtain ⟨b, o, e, lb, hc⟩ := h.rd (by omega)
  exact ⟨b, o, e, lb, fun j hj => by rw [List.getElem_take]; exact hc j (by rw [List.length_take] at hj; omega)⟩
theorem rs_cut {w : World} {sz : Nat} {A : Option Addr} {n c : Nat} {xs : List Value} (h : Rs w sz A n c xs) {k : Nat} (hk : k ≤ n) : Rs w sz (cutM A sz k c) (n - k) (c - k) (xs.drop (k * sz)) := by
  have hle := h.le
  have hl := h.len
  refine ⟨fun h0 => ?_, by rw [List.length_drop, hl, Nat.sub_mul], by omega, by have := h.max; omega, fun e => ?_⟩
  · rw [List.length_drop] at h0
    obtain ⟨b, o, e, lb, hc⟩ := h.rd (by omega)
    subst e
    have hkn : k < n := by
      rcases Nat.lt_or_ge k n with h1 | h1
      · exact h1
      · have := Nat.mul_le_mul_right sz h1; omega
    refine ⟨b, o + k * sz, by unfold cutM; rw [if_neg (by omega)]; simp [Nw.add_lit], lb, fun j hj => ?_⟩
    rw [List.length_drop] at hj
    rw [List.getElem_drop, Nat.add_assoc]
    exact hc (k * sz + j) (by omega)
  · unfold cutM at e
    split at e
    · omega
    · rw [Option.map_eq_none_iff] at e; rw [h.non e]; omega
theorem Lt.pre {w : World} {A : Option Addr} {l : List Td} {c : Nat} (h : Lt w A l c) {k : Nat} (hk : k ≤ l.length) : Rs w 2 A k c (tv (l.take k)) := by rw [← tv_take]; exact rs_pre h hk
theorem Lt.cut {w : World} {A : Option Addr} {l : List Td} {c : Nat} (h : Lt w A l c) {k : Nat} (hk : k ≤ l.length) : Rs w 2 (cutM A 2 k c) (l.length - k) (c - k) (tv (l.drop k)) := by rw [← tv_drop]; exact rs_cut h hk

/-- Which one comes first. -/
def bf (x y : Td) : Prop := x.2 < y.2 ∨ (x.2 = y.2 ∧ x.1 < y.1)
instance (x y : Td) : Decidable (bf x y) := inferInstanceAs (Decidable (_ ∨ _))
theorem bf_irr (x : Td) : ¬ bf x x := by unfold bf; omega
theorem bf_trans {x y z : Td} (h : bf x y) (k : bf y z) : bf x z := by unfold bf at *; omega
theorem bf_tot {x y : Td} (h : ¬ bf x y) : x = y ∨ bf y x := by
  unfold bf at *
  by_cases h1 : x.2 = y.2
  · by_cases h2 : x.1 = y.1
    · exact Or.inl (Prod.ext h2 h1)
    · right; omega
  · right; omega
theorem before_any (x y : Td) (w : World) : Calls Try.prog 30 #[.agg #[.int .i64 x.1, .int .u64 x.2], .agg #[.int .i64 y.1, .int .u64 y.2]] w fun e w' => e = .returned (.bool (decide (bf x y))) ∧ Below w.heap.size w w' := by
  obtain ⟨a, b⟩ := x
  obtain ⟨c, d⟩ := y
  simp only
  by_cases h : b = d
  · subst h
    have hb : (b == b) = true := by simp
    by_cases h1 : a < c
    · have HB : Hid (bf (a, b) (c, b)) := Or.inr ⟨rfl, h1⟩
      go_enter Try.func30, Try.ntmps30
      go_wp2_with fail
      go_ret
      exact ⟨retB (by simp [HB.out]), (bnew w _).alloc (by simp) _⟩
    · have HB : Hid (¬ bf (a, b) (c, b)) := by show ¬ _; unfold bf; simp only; omega
      go_enter Try.func30, Try.ntmps30
      go_wp2_with fail
      go_ret
      exact ⟨retB (by simp [HB.out]), (bnew w _).alloc (by simp) _⟩
  · have hb : (b == d) = false := by simpa using h
    by_cases h1 : b < d
    · have HB : Hid (bf (a, b) (c, d)) := Or.inl h1
      clear h
      go_enter Try.func30, Try.ntmps30
      go_wp2_with fail
      go_ret
      exact ⟨retB (by simp [HB.out]), (bnew w _).alloc (by simp) _⟩
    · have HB : Hid (¬ bf (a, b) (c, d)) := by show ¬ _; unfold bf; simp only; omega
      clear h
      go_enter Try.func30, Try.ntmps30
      go_wp2_with fail
      go_ret
      exact ⟨retB (by simp [HB.out]), (bnew w _).alloc (by simp) _⟩
end Go.Proofs.Ytpalbccoiejmoaa.Ya
