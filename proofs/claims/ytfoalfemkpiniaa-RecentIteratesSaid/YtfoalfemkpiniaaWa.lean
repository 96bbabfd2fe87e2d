/- Proves what the inner methods of the program's order return, at an order in memory as two maps. Conditions: as each theorem names them. -/
import Derived.Test.YtfoalfemkpiniaaWm
import Derived.Test.YtfoalfemkpiniaaUc
import Derived.Shelf.Lay
import Derived.Deep.Cut
import Derived.Shelf.SlMaps.Clone
namespace Go.Proofs.Ytfoalfemkpiniaa.Wa
open Go.RowKit Go.Maps Ap Mi Nw Ua Uh Uk Wm

/-- Block b is a map that reads as D. -/
def Own (w : World) (b : Nat) (D : DataW Unit) : Prop := Owns w b (Maps.size D) D
theorem Own.of {w : World} {b n : Nat} {D : DataW Unit} (h : Owns w b n D) : Own w b D := by
  obtain ⟨es, clock, h1, h2, _, h4⟩ := h
  refine ⟨es, clock, h1, h2, ?_, h4⟩
  have h5 : Maps.size D = es.size := by rw [h4]; show List.length _ = _; rw [length_sorted]; simp
  omega
theorem Own.lt {w : World} {b : Nat} {D : DataW Unit} (h : Own w b D) : b < w.heap.size := Owns.lt h
theorem Own.kept {w w' : World} {b : Nat} {D : DataW Unit} {F : Nat → Prop} (h : Own w b D) (ho : Only F w w') (hb : ¬ F b) : Own w' b D := Owns.kept h ho hb
section
variable {P : Program} (w : World) {ops : Array Oper} {rest : List Oper} {o : Oper} {a : Act} {Q : Exit → Act → World → Prop}
theorem to_store (hg : o.guard = none) (m x v : Operand) (hop : o.op = Op.mapUpdate 43 m x v) (b : Nat) (D : DataW Unit) (hm : a.eval m = .map (some b)) (hown : Own w b D) (hn : Maps.size D ≤ 2000000) (k : Int) (hk : In k) (hx : a.eval x = .int .i64 k)
    (c : Int) (hci : In c) (hv : a.eval v = .int .i64 c) (hK : ∀ w', Own w' b (D.put (kl k) (.lit (.int .i64 c))) → Only (fun k => k = b) w w' → wpList Try.prog ops Q rest (a.put o.dst undef) w') :
    wpList Try.prog ops Q (o :: rest) a w :=
  wpList_mapUpdate_own w hg m x v _ hop _ _ keyed Try.underlying43 (plainElem Try.prog 3) b _ D hm hown (by unfold maxLen; omega) _ _ _ hx hv (key_mk hk) _ _ (plainElem_int Try.underlying3 (in_wf hci)) (fun w' h1 h2 => hK w' (Own.of h1) (Only.of_grown h2 (fun k e => by simp at e; exact e.symm)))
theorem to_del (hg : o.guard = none) (m x : Operand) (hop : o.op = Op.call { callee := Callee.builtin Builtin.delete, args := #[m, x], argTypes := #[43, 3] }) (b : Nat) (D : DataW Unit) (hm : a.eval m = .map (some b)) (hown : Own w b D) (k : Int) (hk : In k) (hx : a.eval x = .int .i64 k)
    (hK : ∀ w', Own w' b (D.del (kl k)) → Only (fun k => k = b) w w' → wpList Try.prog ops Q rest (a.put o.dst (.tuple #[])) w') :
    wpList Try.prog ops Q (o :: rest) a w :=
  at_del w hg m x hop b _ D hm hown k hk hx (fun w' h1 h2 => hK w' (Own.of h1) h2)
end
/-- How an order lies: a block g with the maps B (before) and A (after). -/
structure Lo (w : World) (g B A : Nat) (DB DA : DataW Unit) : Prop where
  bk : Blk w g #[.map (some B), .map (some A)] 45
  ob : Own w B DB
  oa : Own w A DA
  ba : B ≠ A
  gb : g ≠ B
  ga : g ≠ A
theorem Lo.kept {w w' : World} {g B A : Nat} {DB DA : DataW Unit} {F : Nat → Prop} (h : Lo w g B A DB DA) (ho : Only F w w') (h1 : ¬ F g) (h2 : ¬ F B) (h3 : ¬ F A) : Lo w' g B A DB DA :=
  ⟨h.bk.only ho h1, h.ob.kept ho h2, h.oa.kept ho h3, h.ba, h.gb, h.ga⟩
def joinPost (w : World) (g B A : Nat) (DB DA : DataW Unit) : Ending → World → Prop := fun e w' => e = .returned (.tuple #[]) ∧ Lo w' g B A DB DA ∧ Only (fun j => j = B ∨ j = A) w w'
set_option maxRecDepth 100000 in
set_option maxHeartbeats 400000 in
theorem join_any {w : World} {g B A : Nat} {DB DA : DataW Unit} (h : Lo w g B A DB DA) (n m : Int) (hn : In n) (hm : In m) (hsb : Maps.size DB ≤ 2000000) (hsa : Maps.size DA ≤ 2000000) :
    Calls Try.prog 25 #[.pointer (some ⟨g, 0, none⟩), .int .i64 n, .int .i64 m] w (joinPost w g B A (DB.put (kl m) (.lit (.int .i64 n))) (DA.put (kl n) (.lit (.int .i64 m)))) := by
  have H0 := Lib.hid h
  have HN := Lib.hid hn; have HM := Lib.hid hm
  have HSB := Lib.hid hsb; have HSA := Lib.hid hsa
  obtain ⟨x0, x1, _⟩ := h.bk.two
  unfold joinPost
  obtain ⟨DA', hDA⟩ : ∃ D, D = DA.put (kl n) (.lit (.int .i64 m)) := ⟨_, rfl⟩
  obtain ⟨DB', hDB⟩ : ∃ D, D = DB.put (kl m) (.lit (.int .i64 n)) := ⟨_, rfl⟩
  have HDA := Lib.hid hDA; have HDB := Lib.hid hDB
  rw [← hDA, ← hDB]
  clear h hn hm hsb hsa hDA hDB
  go_enter Try.func25, Try.ntmps25
  go_upto_region 1 with (at_mapUpdate; refine to_store _ rfl _ _ _ rfl A DA rfl H0.out.oa HSA.out n HN.out rfl m HM.out rfl ?_; rw [← HDA.out]; intro w1 hw1 ho1; have HO1 := Lib.hid ho1; have HW1 := Lib.hid hw1; have HK1 := Lib.hid (H0.out.bk.only ho1 H0.out.ga); have HB1 := Lib.hid (H0.out.ob.kept ho1 H0.out.ba); obtain ⟨y0, y1, _⟩ := HK1.out.two; clear ho1 hw1 x0 x1)
  go_wp2_with (at_mapUpdate; refine to_store _ rfl _ _ _ rfl B DB rfl HB1.out HSB.out m HM.out rfl n HN.out rfl ?_; rw [← HDB.out]; intro w2 hw2 ho2; have HO2 := Lib.hid ho2; have HW2 := Lib.hid hw2; clear ho2 hw2)
  go_end0
  exact ⟨rfl, ⟨HK1.out.only HO2.out H0.out.gb, HW2.out, HW1.out.kept HO2.out (fun e => H0.out.ba e.symm), H0.out.ba, H0.out.gb, H0.out.ga⟩, (HO1.out.mono fun _ _ e => Or.inr e).trans (HO2.out.mono fun _ _ e => Or.inl (Or.inl e))⟩
theorem size_le {w : World} {b : Nat} {D : DataW Unit} (h : Own w b D) (n : Int) (v : DataW Unit) : Maps.size (D.put (kl n) v) ≤ Maps.size D + 1 := by
  rw [size_put (Owns.tidy h)]; split <;> omega
theorem neq_map (p : Option Nat) (w : World) : (binOp .neq 43 (.map p) (.map none)).run Try.prog w = .ok (.bool p.isSome) w := by
  simp only [binOp]
  simp [show Op.equal 43 (.map p) (.map none) = Op.equalIn (9999 + 1) 43 (.map p) (.map none) from rfl, run_equalIn_map_nil_sl w 9999 43 _ _ p Try.underlying43]
theorem usable_any {w : World} {g B A : Nat} {DB DA : DataW Unit} (h : Lo w g B A DB DA) :
    Calls Try.prog 38 #[.pointer (some ⟨g, 0, none⟩)] w fun e w' => e = .returned (.bool true) ∧ w' = w := by
  obtain ⟨x0, x1, _⟩ := h.bk.two
  have hnq := neq_map
  clear h
  go_enter Try.func38, Try.ntmps38
  go_wp2_with fail
  go_ret
  exact ⟨rfl, rfl⟩
/-- What look says of a number. -/
def lokN (n : Int) : Int := if Sl n then 0 else 2
def lokB (L : List Int) (n : Int) : Bool := decide (Sl n ∧ n ∈ L)
/-- The numbers that the maps know. -/
def pr (L : List Int) (n : Int) : Prop := n = -1 ∨ n ∈ L
theorem in_sl {n : Int} (h : Sl n) : In n := ⟨by have := h.1; omega, by have := h.2; omega⟩
theorem in_m1 : In (-1) := ⟨by omega, by omega⟩
set_option maxRecDepth 100000 in
theorem look_any {w : World} {g B A k : Nat} {DB DA : DataW Unit} {L : List Int} {a : Int → Int} (h : Lo w g B A DB DA) (hm : Md DA (pr L) k a) (n : Int) :
    Calls Try.prog 37 #[.pointer (some ⟨g, 0, none⟩), .int .i64 n] w fun e w' => e = .returned (.tuple #[.bool (lokB L n), .int .i64 (lokN n)]) ∧ w' = w := by
  have H0 := Lib.hid h
  have HU := Lib.hid (usable_any h)
  obtain ⟨x0, x1, _⟩ := h.bk.two
  clear h
  by_cases h0 : 0 ≤ n
  · by_cases h1 : n < 1048576
    · have HS : Hid (Sl n) := ⟨h0, h1⟩
      have HV : Hid (∃ c : Int, DA.atKey (kl n) (.lit (.int .i64 0)) = .lit (.int .i64 c)) := by
        by_cases hp : pr L n
        · exact ⟨_, hm.val n hp⟩
        · exact ⟨_, (hm.no hp).2⟩
      have HH : Hid (has DA (kl n) = lokB L n) := by
        show _ = _
        unfold lokB
        rw [Bool.eq_iff_iff, hm.mem]
        simp only [decide_eq_true_eq, HS.out, true_and]
        exact ⟨fun h => h.resolve_left (by omega), Or.inr⟩
      have HL : Hid (lokN n = 0) := by show _ = _; unfold lokN; rw [if_pos HS.out]
      obtain ⟨c, hc⟩ := HV.out
      have HC := Lib.hid hc
      rw [HL.out]
      clear HV hc
      go_enter Try.func37, Try.ntmps37
      go_wp2_with fail
      refine HU.out.mono ?_
      rintro e w1 ⟨rfl, rfl⟩
      go_wp2_with (at_lookup; refine at_ok _ rfl _ _ rfl A _ DA rfl H0.out.oa n (in_sl HS.out) rfl c _ HC.out HH.out ?_)
      go_ret2
      exact ⟨rfl, rfl⟩
    · have HL : Hid (lokN n = 2 ∧ lokB L n = false) := by
        have hs : ¬ Sl n := fun h => h1 h.2
        exact ⟨by unfold lokN; rw [if_neg hs], by unfold lokB; simp [hs]⟩
      rw [HL.out.1, HL.out.2]
      have h1' : (1048576 : Int) ≤ n := by omega
      clear hm h1
      go_enter Try.func37, Try.ntmps37
      go_wp2_with fail
      refine HU.out.mono ?_
      rintro e w1 ⟨rfl, rfl⟩
      go_wp2_with fail
      go_ret2
      exact ⟨rfl, rfl⟩
  · have HL : Hid (lokN n = 2 ∧ lokB L n = false) := by
      have hs : ¬ Sl n := fun h => h0 h.1
      exact ⟨by unfold lokN; rw [if_neg hs], by unfold lokB; simp [hs]⟩
    rw [HL.out.1, HL.out.2]
    have h1' : n < 0 := by omega
    clear hm h0
    go_enter Try.func37, Try.ntmps37
    go_wp2_with fail
    refine HU.out.mono ?_
    rintro e w1 ⟨rfl, rfl⟩
    go_wp2_with fail
    go_ret2
    exact ⟨rfl, rfl⟩
set_option maxRecDepth 100000 in
theorem need_any {w : World} {g B A k : Nat} {DB DA : DataW Unit} {L : List Int} {a : Int → Int} (h : Lo w g B A DB DA) (hm : Md DA (pr L) k a) (n : Int) :
    Calls Try.prog 34 #[.pointer (some ⟨g, 0, none⟩), .int .i64 n] w fun e w' => e = .returned (.int .i64 (remN L n)) ∧ w' = w := by
  have HK := Lib.hid (look_any h hm n)
  clear h hm
  by_cases hs : Sl n
  · by_cases hl : n ∈ L
    · have e1 : lokB L n = true := by unfold lokB; simp [hs, hl]
      have e2 : lokN n = 0 := by unfold lokN; rw [if_pos hs]
      have e3 : remN L n = 0 := by unfold remN; rw [if_neg (by simpa using hs), if_pos hl]
      rw [e1, e2] at HK
      rw [e3]
      clear e1 e2 e3 hs hl
      go_enter Try.func34, Try.ntmps34
      go_wp2_with fail
      refine HK.out.mono ?_
      rintro e w1 ⟨rfl, rfl⟩
      go_wp2_with fail
      go_ret
      exact ⟨rfl, rfl⟩
    · have e1 : lokB L n = false := by unfold lokB; simp [hl]
      have e2 : lokN n = 0 := by unfold lokN; rw [if_pos hs]
      have e3 : remN L n = 9 := by unfold remN; rw [if_neg (by simpa using hs), if_neg hl]
      rw [e1, e2] at HK
      rw [e3]
      clear e1 e2 e3 hs hl
      go_enter Try.func34, Try.ntmps34
      go_wp2_with fail
      refine HK.out.mono ?_
      rintro e w1 ⟨rfl, rfl⟩
      go_wp2_with fail
      go_ret
      exact ⟨rfl, rfl⟩
  · have e1 : lokB L n = false := by unfold lokB; simp [hs]
    have e2 : lokN n = 2 := by unfold lokN; rw [if_neg hs]
    have e3 : remN L n = 2 := by unfold remN; rw [if_pos hs]
    rw [e1, e2] at HK
    rw [e3]
    clear e1 e2 e3 hs
    go_enter Try.func34, Try.ntmps34
    go_wp2_with fail
    refine HK.out.mono ?_
    rintro e w1 ⟨rfl, rfl⟩
    go_wp2_with fail
    go_ret
    exact ⟨rfl, rfl⟩
set_option maxRecDepth 100000 in
theorem follow_any {w : World} {g B A : Nat} {DB DA : DataW Unit} (h : Lo w g B A DB DA) (n no c x y : Int) (hn : In n) (hc : DA.atKey (kl n) (.lit (.int .i64 0)) = .lit (.int .i64 c)) (hx : (if c = -1 then 0 else c) = x) (hy : (if c = -1 then no else 0) = y) :
    Calls Try.prog 41 #[.pointer (some ⟨g, 0, none⟩), .int .i64 n, .int .i64 no] w fun e w' => e = .returned (.tuple #[.int .i64 x, .int .i64 y]) ∧ w' = w := by
  obtain ⟨x0, x1, _⟩ := h.bk.two
  have HLK := look_run h.oa hn hc
  clear hn hc h
  by_cases h1 : c = -1
  · rw [if_pos h1] at hx hy
    subst hx; subst hy
    have hb : (c == -1) = true := by simpa using h1
    clear h1
    go_enter Try.func41, Try.ntmps41
    go_wp2_with fail
    go_ret2
    exact ⟨rfl, rfl⟩
  · rw [if_neg h1] at hx hy
    subst hx; subst hy
    have hb : (c == -1) = false := by simpa using h1
    clear h1
    go_enter Try.func41, Try.ntmps41
    go_wp2_with fail
    go_ret2
    exact ⟨rfl, rfl⟩
end Go.Proofs.Ytfoalfemkpiniaa.Wa
