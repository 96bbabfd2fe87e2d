/- Proves what New and the methods usable, ref, At, Has, Len, Made of an arena return. Conditions: as each theorem names them. -/
import Derived.Test.YtighehonkookhaaNm
import Derived.Test.YtighehonkookhaaNw
namespace Go.Proofs.Ytighehonkookhaa.Na
open Go.RowKit Ap Mi Nm Nw

/-- The arena in block g: its maximum, its slots. It and what it holds lie in F. -/
structure Are (F : Nat → Prop) (w : World) (g m G : Nat) (s : St) : Prop where
  has : ∃ A c B d, Blk w g #[.int .i64 (m : Int), .slice A s.gens.length c, .slice B s.fr.length d] 50 ∧ F g ∧ Mine 0 2 w A s.gens.length c (sl s.gens s.tk) ∧ Mine 0 1 w B s.fr.length d (ints s.fr) ∧
    (∀ a, A = some a → F a.block ∧ a.block ≠ g) ∧ (∀ b, B = some b → F b.block ∧ b.block ≠ g) ∧ ∀ a b, A = some a → B = some b → a.block ≠ b.block
  inv : Inv m G s
  lo : 1 ≤ m
  hi : m ≤ 1048576
section
variable {F F' : Nat → Prop} {w w' : World} {g m G : Nat} {s : St}
theorem Are.lt (h : Are F w g m G s) : g < w.heap.size := by
  obtain ⟨A, c, B, d, h1, _⟩ := h.has
  exact h1.lt
theorem Are.inF (h : Are F w g m G s) : F g := by
  obtain ⟨A, c, B, d, _, h1, _⟩ := h.has
  exact h1
theorem Are.mono (h : Are F w g m G s) (hFG : ∀ j, j < w.heap.size → F j → F' j) : Are F' w g m G s := by
  have hl := h.lt
  obtain ⟨⟨A, c, B, d, h1, h2, h3, h4, h5, h6, h7⟩, hi⟩ := h
  exact ⟨⟨A, c, B, d, h1, hFG _ hl h2, h3, h4, fun a ha => ⟨hFG _ (h3.base ha).2.1 (h5 a ha).1, (h5 a ha).2⟩, fun a ha => ⟨hFG _ (h4.base ha).2.1 (h6 a ha).1, (h6 a ha).2⟩, h7⟩, by assumption, by assumption, by assumption⟩
theorem Are.tight (h : Are F w g m G s) : Are (fun j => F j ∧ j < w.heap.size) w g m G s := h.mono fun _ hj hf => ⟨hf, hj⟩
theorem Are.only (h : Are F w g m G s) (ho : Only F' w w') (hn : ∀ j, F j → ¬ F' j) : Are F w' g m G s := by
  have hl := h.lt
  obtain ⟨⟨A, c, B, d, h1, h2, h3, h4, h5, h6, h7⟩, hi, hlo, hhi⟩ := h
  exact ⟨⟨A, c, B, d, h1.only ho (hn g h2), h2, h3.only ho (fun a ha => hn _ (h5 a ha).1), h4.only ho (fun a ha => hn _ (h6 a ha).1), h5, h6, h7⟩, hi, hlo, hhi⟩
theorem Are.below {B : Nat} (h : Are F w g m G s) (hb : Below B w w') (hB : w.heap.size ≤ B) : Are F w' g m G s :=
  h.only (Only.of_below hb hB (fun _ => False)) (fun _ _ hf => hf)
theorem Are.drewN (h : Are F w g m G s) (n : Nat) : Are F (w.drewN n) g m G s := h.only ((Only.refl (fun _ => False) w).drewN n) (fun _ _ hf => hf)
theorem Are.more {G' : Nat} (h : Are F w g m G s) (hG : G ≤ G') : Are F w g m G' s := ⟨h.has, h.inv.mono hG, h.lo, h.hi⟩
end

/-- What New leaves. -/
def newPost (w : World) (n : Int) : Ending → World → Prop := fun e w' =>
  (∃ m : Nat, n = (m : Int) ∧ 1 ≤ m ∧ m ≤ 1048576 ∧ ∃ g, e = .returned (.tuple #[.pointer (some ⟨g, 0, none⟩), .int .i64 0]) ∧ Are (fun j => w.heap.size ≤ j) w' g m 1 ⟨[], [], []⟩ ∧ Below w.heap.size w w') ∨
  ((n < 1 ∨ 1048576 < n) ∧ e = .returned (.tuple #[.pointer none, .int .i64 2]) ∧ w = w')
set_option maxRecDepth 100000 in
set_option maxHeartbeats 400000 in
theorem new_any (n : Int) (w : World) : Calls Try.prog 9 #[.int .i64 n] w (newPost w n) := by
  by_cases h0 : n < 1
  · have HN : Hid (n < 1 ∨ 1048576 < n) := Or.inl h0
    go_enter Try.func9, Try.ntmps9
    go_wp2_with fail
    go_ret2
    exact Or.inr ⟨HN.out, rfl, rfl⟩
  · by_cases h1 : 1048576 < n
    · have HN : Hid (n < 1 ∨ 1048576 < n) := Or.inr h1
      have h0' : 1 ≤ n := by omega
      clear h0
      go_enter Try.func9, Try.ntmps9
      go_wp2_with fail
      go_ret2
      exact Or.inr ⟨HN.out, rfl, rfl⟩
    · obtain ⟨m, rfl⟩ : ∃ m : Nat, n = (m : Int) := ⟨n.toNat, by omega⟩
      have h0' : (1 : Int) ≤ (m : Int) := by omega
      have h1' : (m : Int) ≤ 1048576 := by omega
      clear h0 h1
      go_enter Try.func9, Try.ntmps9
      go_wp2_with fail
      go_ret2
      refine Or.inl ⟨m, rfl, by omega, by omega, _, rfl, ⟨⟨none, 0, none, 0, ?_, Nat.le_refl _, Mine.nil _ _ _, Mine.nil _ _ _, (fun a e => by cases e), (fun a e => by cases e), (fun a _ e => by cases e)⟩, Inv.start _ _, by omega, by omega⟩, bnew _ _⟩
      exact Blk.new w _ _

set_option maxRecDepth 100000 in
set_option maxHeartbeats 400000 in
theorem usable_any {F : Nat → Prop} {w : World} {g m G : Nat} {s : St} (h : Are F w g m G s) :
    Calls Try.prog 30 #[.pointer (some ⟨g, 0, none⟩)] w fun e w' => e = .returned (.bool true) ∧ w = w' := by
  obtain ⟨A, c, B, d, h1, _⟩ := h.has
  obtain ⟨c0, c1, c2, _, _, _⟩ := h1.three
  have hlo : (0 : Int) < (m : Int) := by have := h.lo; omega
  clear h h1
  go_enter Try.func30, Try.ntmps30
  go_wp2_with fail
  go_ret
  exact ⟨retB (by simp; omega), rfl⟩

set_option maxRecDepth 100000 in
set_option maxHeartbeats 400000 in
theorem len_any {F : Nat → Prop} {w : World} {g m G : Nat} {s : St} (h : Are F w g m G s) :
    Calls Try.prog 14 #[.pointer (some ⟨g, 0, none⟩)] w fun e w' => e = .returned (.int .i64 ((s.gens.length - s.fr.length : Nat) : Int)) ∧ ∃ n, w' = w.drewN n := by
  obtain ⟨A, c, B, d, h1, _⟩ := h.has
  obtain ⟨c0, c1, c2, _, _, _⟩ := h1.three
  have hf := h.inv.frl
  have hg := h.inv.le
  have hh := h.hi
  have HE : Hid ((s.gens.length : Int) - (s.fr.length : Int) = ((s.gens.length - s.fr.length : Nat) : Int)) := by show _ = _; omega
  clear h h1
  go_enter Try.func14, Try.ntmps14
  go_wp2_with fail
  go_quiet (fail)
  go_wp2_with fail
  go_ret
  exact ⟨retI HE.out, _, rfl⟩
set_option maxRecDepth 100000 in
set_option maxHeartbeats 400000 in
theorem made_any {F : Nat → Prop} {w : World} {g m G : Nat} {s : St} (h : Are F w g m G s) :
    Calls Try.prog 15 #[.pointer (some ⟨g, 0, none⟩)] w fun e w' => e = .returned (.int .i64 (s.gens.length : Int)) ∧ w = w' := by
  obtain ⟨A, c, B, d, h1, _⟩ := h.has
  obtain ⟨c0, c1, c2, _, _, _⟩ := h1.three
  clear h h1
  go_enter Try.func15, Try.ntmps15
  go_wp2_with fail
  go_ret
  exact ⟨rfl, rfl⟩

/-- The cells of a slot. -/
theorem Are.slot {F : Nat → Prop} {w : World} {g m G : Nat} {s : St} (h : Are F w g m G s) {k : Nat} (hk : k < s.gens.length) :
    ∃ gA oA c B d, gA < w.heap.size ∧ Blk w g #[.int .i64 (m : Int), .slice (some ⟨gA, oA, none⟩) s.gens.length c, .slice B s.fr.length d] 50 ∧
      w.cell? ⟨gA, oA + k * 2, none⟩ = some (.int .i64 (genAt s (k : Int) : Int)) ∧ w.cell? ⟨gA, oA + k * 2 + 1, none⟩ = some (.bool (ist s (k : Int))) := by
  obtain ⟨A, c, B, d, h1, _, h3, _⟩ := h.has
  obtain ⟨e0, e1⟩ := sl_get s.gens s.tk h.inv.tl k hk
  have h0 : 0 < (sl s.gens s.tk).length := by have := (List.getElem?_eq_some_iff.1 e0).1; omega
  obtain ⟨gA, oA, rfl, _, hgA⟩ := mine_place h3 h0
  refine ⟨gA, oA, c, B, d, hgA, h1, ?_, ?_⟩
  · rw [genAt_nat hk]; exact (mine_cell h3 e0).1
  · have hk' : k < s.tk.length := by rw [h.inv.tl]; exact hk
    have := (mine_cell h3 e1).1
    rw [Nat.add_assoc, this, ist_nat, List.getElem?_eq_getElem hk']
    cases s.tk[k] <;> rfl
set_option maxRecDepth 100000 in
set_option maxHeartbeats 400000 in
theorem ref_any {F : Nat → Prop} {w : World} {g m G : Nat} {s : St} (h : Are F w g m G s) (k : Nat) (hk : k < s.gens.length) :
    Calls Try.prog 29 #[.pointer (some ⟨g, 0, none⟩), .int .i64 (k : Int)] w fun e w' => e = .returned (.agg #[.int .i64 (k : Int), .int .i64 (genAt s (k : Int) : Int)]) ∧ Below w.heap.size w w' := by
  obtain ⟨gA, oA, c, B, d, lA, h1, e0, e1⟩ := h.slot hk
  have lg := h.lt
  obtain ⟨c0, c1, c2, _, _, _⟩ := h1.three
  have hg := h.inv.le
  have hh := h.hi
  have i1 : (k : Int) < (s.gens.length : Int) := by omega
  obtain ⟨x, hx⟩ : ∃ x, x = genAt s (k : Int) := ⟨_, rfl⟩
  rw [← hx] at e0 ⊢
  clear h h1 hx
  go_enter Try.func29, Try.ntmps29
  go_wp2_with fail
  exact bodyPost_ret (v := .agg #[.int .i64 (k : Int), .int .i64 (x : Int)]) (by simp [results, Try.results29, go_sem]) rfl ⟨rfl, (bnew _ _)⟩
end Go.Proofs.Ytighehonkookhaa.Na
