/- Proves what the methods At, Has, Take and Release of the specification's arena return. Conditions: as each theorem names them. -/
import Derived.Test.YtighehonkookhaaNg
namespace Go.Proofs.Ytighehonkookhaa.Nh
open Go.RowKit Ap Mi Nm Nw Na Nb Rg Nc Nd Nx Nf Ng

theorem bools_get {l : List Bool} {k : Nat} {x : Bool} (h : l[k]? = some x) : (bools l)[k]? = some (.bool x) := by unfold bools; rw [List.getElem?_map, h]; rfl
/-- The cells of a slot. -/
theorem Spa.slot {w : World} {m G : Nat} {s : St} {X Y Z : Option Addr} {c d e : Nat} (h : Spa w s X c Y d Z e) (hi : Inv m G s) {k : Nat} (hk : k < s.gens.length) :
    ∃ gX oX gY oY, X = some ⟨gX, oX, none⟩ ∧ Y = some ⟨gY, oY, none⟩ ∧ gX < w.heap.size ∧ gY < w.heap.size ∧ w.cell? ⟨gX, oX + k, none⟩ = some (.int .i64 (genAt s (k : Int) : Int)) ∧ w.cell? ⟨gY, oY + k, none⟩ = some (.bool (ist s (k : Int))) := by
  have hkt : k < s.tk.length := by rw [hi.tl]; exact hk
  obtain ⟨gX, oX, e1, l1, c1⟩ := h.g.rd.at_ (ints_get (List.getElem?_eq_getElem hk))
  obtain ⟨gY, oY, e2, l2, c2⟩ := h.t.rd.at_ (bools_get (List.getElem?_eq_getElem hkt))
  refine ⟨gX, oX, gY, oY, e1, e2, l1, l2, by rw [genAt_nat hk]; exact c1, ?_⟩
  rw [c2, ist_nat, List.getElem?_eq_getElem hkt]
  cases s.tk[k] <;> rfl
set_option maxRecDepth 100000 in
set_option maxHeartbeats 1000000 in
theorem rat_any {w : World} {m G : Nat} {s : St} {X Y Z : Option Addr} {c d e : Nat} (h : Spa w s X c Y d Z e) (hi : Inv m G s) (n : Int) :
    Calls Try.prog 25 #[.agg #[.int .i64 (m : Int), .slice X s.gens.length c, .slice Y s.tk.length d, .slice Z s.fr.length e], .int .i64 n] w (atPost w s n) := by
  have hle := hi.le; have htl : s.tk.length = s.gens.length := hi.tl
  obtain ⟨T, hT⟩ : ∃ T, T = s.tk.length := ⟨_, rfl⟩
  unfold atPost
  by_cases hk : 0 ≤ n ∧ n < (s.gens.length : Int)
  · obtain ⟨k, rfl⟩ : ∃ k : Nat, n = (k : Int) := ⟨n.toNat, by omega⟩
    have hk' : k < s.gens.length := by omega
    have i1 : (k : Int) < (s.gens.length : Int) := by omega
    have i3 : (k : Int) < (s.tk.length : Int) := by omega
    have i2 : decide ((k : Int) ≥ (s.gens.length : Int)) = false := by simpa using hk'
    obtain ⟨gX, oX, gY, oY, rfl, rfl, l1, l2, e0, e1⟩ := Spa.slot h hi hk'
    cases hb : ist s (k : Int)
    · obtain ⟨q0, q1, q2⟩ := ans_no hb
      rw [q0, q1, q2]
      rw [hb] at e1
      clear h hi hb q0 q1 q2 e0 hk htl hT
      go_enter Try.func25, Try.ntmps25
      go_wp2_with fail
      exact bodyPost_ret (v := .tuple #[.agg #[.int .i64 0, .int .i64 0], .int .i64 9]) (by simp [results, Try.results25, go_sem]) rfl ⟨rfl, (bnew w _).alloc (by simp) _⟩
    · obtain ⟨q0, q1, q2⟩ := ans_yes hb
      rw [q0, q1, q2]
      rw [hb] at e1
      obtain ⟨x, hx⟩ : ∃ x, x = genAt s (k : Int) := ⟨_, rfl⟩
      rw [← hx] at e0 ⊢
      clear h hi hb q0 q1 q2 hk htl hx hT
      go_enter Try.func25, Try.ntmps25
      go_wp2_with fail
      exact bodyPost_ret (v := .tuple #[.agg #[.int .i64 (k : Int), .int .i64 (x : Int)], .int .i64 0]) (by simp [results, Try.results25, go_sem]) rfl ⟨rfl, (bnew w _).alloc (by simp) _⟩
  · have hb : ist s n = false := by
      by_cases h0 : 0 ≤ n
      · exact ist_far (by rw [hi.tl]; omega)
      · exact ist_neg (by omega)
    obtain ⟨q0, q1, q2⟩ := ans_no hb
    rw [q0, q1, q2]
    by_cases h0 : 0 ≤ n
    · have i2 : decide (n ≥ (s.gens.length : Int)) = true := by simp; omega
      have i3 : (s.gens.length : Int) ≤ n := by omega
      clear h hi hb q0 q1 q2 hk htl hT
      go_enter Try.func25, Try.ntmps25
      go_wp2_with fail
      exact bodyPost_ret (v := .tuple #[.agg #[.int .i64 0, .int .i64 0], .int .i64 9]) (by simp [results, Try.results25, go_sem]) rfl ⟨rfl, (bnew w _).alloc (by simp) _⟩
    · have i2 : n < 0 := by omega
      clear h hi hb q0 q1 q2 hk h0 htl hT
      go_enter Try.func25, Try.ntmps25
      go_wp2_with fail
      exact bodyPost_ret (v := .tuple #[.agg #[.int .i64 0, .int .i64 0], .int .i64 9]) (by simp [results, Try.results25, go_sem]) rfl ⟨rfl, (bnew w _).alloc (by simp) _⟩
set_option maxRecDepth 100000 in
set_option maxHeartbeats 1000000 in
theorem rhas_any {w : World} {m G : Nat} {s : St} {X Y Z : Option Addr} {c d e : Nat} (h : Spa w s X c Y d Z e) (hi : Inv m G s) (n x : Int) :
    Calls Try.prog 27 #[.agg #[.int .i64 (m : Int), .slice X s.gens.length c, .slice Y s.tk.length d, .slice Z s.fr.length e], .agg #[.int .i64 n, .int .i64 x]] w (boolTo (hasB s n x) w) := by
  obtain ⟨w0, hw0⟩ : ∃ w0, w0 = (w.alloc (.cells #[.int .i64 (m : Int), .slice X s.gens.length c, .slice Y s.tk.length d, .slice Z s.fr.length e] 31)).alloc (.cells #[.int .i64 n, .int .i64 x] 35) := ⟨_, rfl⟩
  have b0 : Below w.heap.size w w0 := by rw [hw0]; exact (bnew w _).alloc (by simp) _
  have p1 : Blk w0 (w.heap.size + 1) #[.int .i64 n, .int .i64 x] 35 := by
    have h := Blk.new (w.alloc (.cells #[.int .i64 (m : Int), .slice X s.gens.length c, .slice Y s.tk.length d, .slice Z s.fr.length e] 31)) #[.int .i64 n, .int .i64 x] 35
    rw [hw0]; simpa using h
  have HB0 := Lib.hid b0; have P1 := Lib.hid p1
  have HA := Lib.hid (rat_any (h.below b0 (Nat.le_refl _)) hi n)
  unfold boolTo
  unfold atPost at HA
  cases hb : ist s n
  · obtain ⟨q0, q1, q2⟩ := ans_no hb
    rw [has_no hb]
    rw [q0, q1, q2] at HA
    clear h hi hb q0 q1 q2 b0 p1
    all_goals
      go_enter Try.func27, Try.ntmps27
      go_wp2_with fail
      rw [← hw0]
      clear hw0
      refine HA.out.mono ?_
      rintro e w1 ⟨rfl, hb⟩
      have HB := Lib.hid hb
      have b1 := P1.out.below hb P1.out.lt
      obtain ⟨d0, d1, d2, d3⟩ := b1.two
      have hz := b1.lt
      clear hb b1
      go_wp2_with fail
      go_ret
      exact ⟨retB (by simp), ((HB0.out.trans (HB.out.mono HB0.out.size))).alloc (by have := HB0.out.size; have := HB.out.size; omega) _⟩
  · obtain ⟨q0, q1, q2⟩ := ans_yes hb
    rw [q0, q1, q2] at HA
    have HE : Hid (hasB s n x = decide ((genAt s n : Int) = x)) := by show _ = _; unfold hasB; rw [hb]; rfl
    rw [HE.out]
    obtain ⟨y, hy⟩ : ∃ y, y = genAt s n := ⟨_, rfl⟩
    rw [← hy] at HA ⊢
    clear h hi hb q0 q1 q2 HE hy b0 p1
    by_cases hyx : (y : Int) = x
    · have E : Hid (decide ((y : Int) = x) = true) := decide_eq_true hyx
      rw [E.out]
      subst hyx
      clear E
      go_enter Try.func27, Try.ntmps27
      go_wp2_with fail
      rw [← hw0]
      clear hw0
      refine HA.out.mono ?_
      rintro e w1 ⟨rfl, hb⟩
      have HB := Lib.hid hb
      have b1 := P1.out.below hb P1.out.lt
      obtain ⟨d0, d1, d2, d3⟩ := b1.two
      have hz := b1.lt
      clear hb b1
      go_wp2_with fail
      go_ret
      exact ⟨retB (by simp), ((HB0.out.trans (HB.out.mono HB0.out.size))).alloc (by have := HB0.out.size; have := HB.out.size; omega) _⟩
    · have E : Hid (decide ((y : Int) = x) = false) := decide_eq_false hyx
      rw [E.out]
      have hyx' : ((y : Int) == x) = false := by rw [beq_eq_false_iff_ne]; exact hyx
      clear E
      go_enter Try.func27, Try.ntmps27
      go_wp2_with fail
      rw [← hw0]
      clear hw0
      refine HA.out.mono ?_
      rintro e w1 ⟨rfl, hb⟩
      have HB := Lib.hid hb
      have b1 := P1.out.below hb P1.out.lt
      obtain ⟨d0, d1, d2, d3⟩ := b1.two
      have hz := b1.lt
      clear hb b1
      go_wp2_with fail
      go_ret
      exact ⟨retB (by simp), ((HB0.out.trans (HB.out.mono HB0.out.size))).alloc (by have := HB0.out.size; have := HB.out.size; omega) _⟩
end Go.Proofs.Ytighehonkookhaa.Nh
