/- Proves what the methods At and Has of an arena return. Conditions: as each theorem names them. -/
import Derived.Test.YtighehonkookhaaNa
namespace Go.Proofs.Ytighehonkookhaa.Nb
open Go.RowKit Ap Mi Nm Nw Na

/-- What At leaves. -/
def atPost (w : World) (s : St) (n : Int) : Ending → World → Prop := fun e w' =>
  e = .returned (.tuple #[.agg #[.int .i64 (aN s n), .int .i64 (aG s n)], .int .i64 (aE s n)]) ∧ Below w.heap.size w w'
set_option maxRecDepth 100000 in
set_option maxHeartbeats 400000 in
theorem at_any {F : Nat → Prop} {w : World} {g m G : Nat} {s : St} (h : Are F w g m G s) (n : Int) :
    Calls Try.prog 22 #[.pointer (some ⟨g, 0, none⟩), .int .i64 n] w (atPost w s n) := by
  have lg := h.lt
  have hg := h.inv.le
  have hh := h.hi
  have HU := Lib.hid (usable_any (h.below (bnew w (.cells #[.int .i64 0, .int .i64 0] 35)) (Nat.le_refl _)))
  by_cases hk : 0 ≤ n ∧ n < (s.gens.length : Int)
  · obtain ⟨k, rfl⟩ : ∃ k : Nat, n = (k : Int) := ⟨n.toNat, by omega⟩
    have hk' : k < s.gens.length := by omega
    have i1 : (k : Int) < (s.gens.length : Int) := by omega
    have i2 : decide ((k : Int) ≥ (s.gens.length : Int)) = false := by simpa using hk'
    obtain ⟨gA, oA, c, B, d, lA, h1, e0, e1⟩ := h.slot hk'
    obtain ⟨c0, c1, c2, _, _, _⟩ := h1.three
    have HA := Lib.hid h
    unfold atPost
    cases hb : ist s (k : Int)
    · obtain ⟨q0, q1, q2⟩ := ans_no hb
      rw [q0, q1, q2]
      rw [hb] at e1
      clear h h1 hb q0 q1 q2 e0 hk
      go_enter Try.func22, Try.ntmps22
      go_wp2_with fail
      refine HU.out.mono ?_
      rintro e w1 ⟨rfl, rfl⟩
      go_wp2_with fail
      exact bodyPost_ret (v := .tuple #[.agg #[.int .i64 0, .int .i64 0], .int .i64 9]) (by simp [results, Try.results22, go_sem]) rfl ⟨rfl, bnew _ _⟩
    · obtain ⟨q0, q1, q2⟩ := ans_yes hb
      rw [q0, q1, q2]
      rw [hb] at e1
      clear h h1 hb q0 q1 q2 e0 hk
      have HR := Lib.hid (ref_any (HA.out.below (bnew w (.cells #[.int .i64 0, .int .i64 0] 35)) (Nat.le_refl _)) k hk')
      obtain ⟨x, hx⟩ : ∃ x, x = genAt s (k : Int) := ⟨_, rfl⟩
      rw [← hx] at HR ⊢
      clear hx
      go_enter Try.func22, Try.ntmps22
      go_wp2_with fail
      refine HU.out.mono ?_
      rintro e w1 ⟨rfl, rfl⟩
      go_wp2_with fail
      refine HR.out.mono ?_
      rintro e w1 ⟨rfl, hb⟩
      have HB := Lib.hid hb
      have b1 := (Blk.new w #[.int .i64 0, .int .i64 0] 35).below hb (by simp)
      obtain ⟨d0, d1, d2, d3⟩ := b1.two
      have hz := b1.lt
      clear hb b1
      go_wp2_with fail
      exact bodyPost_ret (v := .tuple #[.agg #[.int .i64 (k : Int), .int .i64 (x : Int)], .int .i64 0]) (by simp [results, Try.results22, go_sem, d0, d1]) rfl ⟨rfl, (((bnew w _).trans (HB.out.mono (by simp))).setCell (Nat.le_refl _) _).setCell (Nat.le_refl _) _⟩
  · have hb : ist s n = false := by
      by_cases h0 : 0 ≤ n
      · exact ist_far (by rw [h.inv.tl]; omega)
      · exact ist_neg (by omega)
    obtain ⟨q0, q1, q2⟩ := ans_no hb
    unfold atPost
    rw [q0, q1, q2]
    obtain ⟨A, c, B, d, h1, _⟩ := h.has
    obtain ⟨c0, c1, c2, _, _, _⟩ := h1.three
    by_cases h0 : 0 ≤ n
    · have i2 : decide (n ≥ (s.gens.length : Int)) = true := by simp; omega
      have i3 : (s.gens.length : Int) ≤ n := by omega
      clear h h1 hb q0 q1 q2 hk
      go_enter Try.func22, Try.ntmps22
      go_wp2_with fail
      refine HU.out.mono ?_
      rintro e w1 ⟨rfl, rfl⟩
      go_wp2_with fail
      exact bodyPost_ret (v := .tuple #[.agg #[.int .i64 0, .int .i64 0], .int .i64 9]) (by simp [results, Try.results22, go_sem]) rfl ⟨rfl, bnew _ _⟩
    · have i2 : n < 0 := by omega
      clear h h1 hb q0 q1 q2 hk h0
      go_enter Try.func22, Try.ntmps22
      go_wp2_with fail
      refine HU.out.mono ?_
      rintro e w1 ⟨rfl, rfl⟩
      go_wp2_with fail
      exact bodyPost_ret (v := .tuple #[.agg #[.int .i64 0, .int .i64 0], .int .i64 9]) (by simp [results, Try.results22, go_sem]) rfl ⟨rfl, bnew _ _⟩

set_option maxRecDepth 100000 in
set_option maxHeartbeats 400000 in
theorem has_any {F : Nat → Prop} {w : World} {g m G : Nat} {s : St} (h : Are F w g m G s) (n x : Int) :
    Calls Try.prog 18 #[.pointer (some ⟨g, 0, none⟩), .agg #[.int .i64 n, .int .i64 x]] w (boolTo (hasB s n x) w) := by
  have lg := h.lt
  have HA := Lib.hid (at_any (h.below (bnew w (.cells #[.int .i64 n, .int .i64 x] 35)) (Nat.le_refl _)) n)
  have b0 := Blk.new w #[.int .i64 n, .int .i64 x] 35
  have HB0 := Lib.hid b0
  unfold boolTo
  cases hb : ist s n
  · obtain ⟨q0, q1, q2⟩ := ans_no hb
    rw [has_no hb]
    unfold atPost at HA
    rw [q0, q1, q2] at HA
    clear h b0 hb q0 q1 q2
    go_enter Try.func18, Try.ntmps18
    go_wp2_with fail
    refine HA.out.mono ?_
    rintro e w1 ⟨rfl, hb⟩
    have HB := Lib.hid hb
    clear hb
    go_wp2_with fail
    go_ret
    exact ⟨retB (by simp), ((bnew w _).trans (HB.out.mono (by simp))).alloc (by have := HB.out.size; simp at this; omega) _⟩
  · obtain ⟨q0, q1, q2⟩ := ans_yes hb
    unfold atPost at HA
    rw [q0, q1, q2] at HA
    have HE : Hid (hasB s n x = decide ((genAt s n : Int) = x)) := by show _ = _; unfold hasB; rw [hb]; rfl
    rw [HE.out]
    obtain ⟨y, hy⟩ : ∃ y, y = genAt s n := ⟨_, rfl⟩
    rw [← hy] at HA ⊢
    clear h b0 hb q0 q1 q2 HE hy
    by_cases hyx : (y : Int) = x
    · have E : Hid (decide ((y : Int) = x) = true) := decide_eq_true hyx
      rw [E.out]
      subst hyx
      clear E
      go_enter Try.func18, Try.ntmps18
      go_wp2_with fail
      refine HA.out.mono ?_
      rintro e w1 ⟨rfl, hb⟩
      have HB := Lib.hid hb
      have b1 := HB0.out.below hb (by simp)
      obtain ⟨d0, d1, d2, d3⟩ := b1.two
      have hz := b1.lt
      clear hb b1
      go_wp2_with fail
      go_ret
      exact ⟨retB (by simp), ((bnew w _).trans (HB.out.mono (by simp))).alloc (by have := HB.out.size; simp at this; omega) _⟩
    · have E : Hid (decide ((y : Int) = x) = false) := decide_eq_false hyx
      rw [E.out]
      have hyx' : ((y : Int) == x) = false := by rw [beq_eq_false_iff_ne]; exact hyx
      clear E
      go_enter Try.func18, Try.ntmps18
      go_wp2_with fail
      refine HA.out.mono ?_
      rintro e w1 ⟨rfl, hb⟩
      have HB := Lib.hid hb
      have b1 := HB0.out.below hb (by simp)
      obtain ⟨d0, d1, d2, d3⟩ := b1.two
      have hz := b1.lt
      clear hb b1
      go_wp2_with fail
      go_ret
      exact ⟨retB (by simp), ((bnew w _).trans (HB.out.mono (by simp))).alloc (by have := HB.out.size; simp at this; omega) _⟩
end Go.Proofs.Ytighehonkookhaa.Nb
