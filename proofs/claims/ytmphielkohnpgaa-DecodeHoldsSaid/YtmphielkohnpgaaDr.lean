/- Proves what the specification's New, Feed, Next and Need of a decoder return. Conditions: few bytes. -/
import Derived.Test.YtmphielkohnpgaaDm
import Derived.Test.YtmphielkohnpgaaFrr
import Derived.Test.YtmphielkohnpgaaMb
import Derived.Test.YtmphielkohnpgaaDe
namespace Go.Proofs.Ytmphielkohnpgaa.Dr
open Go.RowKit Vm Ap Vw Va Vg Vgr Gc Fm Fw Mi Mb Fr Frr Dm De

/-- The specification's decoder, as a value. -/
def refV (m : Int) (A : Option Addr) (n c : Nat) (b : Bool) : Value := .agg #[.int .i64 m, .slice A n c, .bool b]
set_option maxRecDepth 100000 in
set_option maxHeartbeats 400000 in
theorem rnew_any (m : Int) (w : World) : Calls Try.prog 11 #[.int .i64 m] w fun e w' => (okM m ∧ e = .returned (.tuple #[.agg #[.int .i64 m, .slice none 0 0, .bool false], .int .i64 0]) ∧ Below w.heap.size w w') ∨
    (¬ okM m ∧ e = .returned (.tuple #[.agg #[.int .i64 0, .slice none 0 0, .bool false], .int .i64 2]) ∧ Below w.heap.size w w') := by
  have HB : Hid (∀ o, Below w.heap.size w (w.alloc o)) := fun o => below_new _ _
  by_cases h0 : m < 0
  · have HN : Hid (¬ okM m) := fun h => h (Or.inl h0)
    go_enter Try.func11, Try.ntmps11
    go_wp2_with fail
    exact bodyPost_ret (v := .tuple #[.agg #[.int .i64 0, .slice none 0 0, .bool false], .int .i64 2]) (by simp [results, Try.results11, go_sem]) rfl (Or.inr ⟨HN.out, rfl, HB.out _⟩)
  · by_cases h1 : 2097152 < m
    · have HN : Hid (¬ okM m) := fun h => h (Or.inr h1)
      have h0' : 0 ≤ m := by omega
      clear h0
      go_enter Try.func11, Try.ntmps11
      go_wp2_with fail
      exact bodyPost_ret (v := .tuple #[.agg #[.int .i64 0, .slice none 0 0, .bool false], .int .i64 2]) (by simp [results, Try.results11, go_sem]) rfl (Or.inr ⟨HN.out, rfl, HB.out _⟩)
    · have HN : Hid (okM m) := fun h => by rcases h with h | h <;> omega
      have h0' : 0 ≤ m := by omega
      have h1' : m ≤ 2097152 := by omega
      clear h0 h1
      go_enter Try.func11, Try.ntmps11
      go_wp2_with fail
      exact bodyPost_ret (v := .tuple #[.agg #[.int .i64 m, .slice none 0 0, .bool false], .int .i64 0]) (by simp [results, Try.results11, go_sem]) rfl (Or.inl ⟨HN.out, rfl, HB.out _⟩)

/-- What Feed leaves. -/
def rfeedPost (w : World) (m : Int) (A : Option Addr) (s : St) (l : Bs) : Ending → World → Prop := fun e w' =>
  ∃ A' c', e = .returned (.tuple #[.agg #[.int .i64 m, .slice A' (feed s l).held.length c', .bool (feed s l).shut], .int .i64 (feedE s : Int)]) ∧ Arg w' A' (feed s l).held c' ∧ From A A' w.heap.size ∧ (∀ a, A' = some a → (∃ a0, A = some a0 ∧ a0.block = a.block) ∨ a.block < w'.heap.size) ∧ Below w.heap.size w w'
set_option maxRecDepth 100000 in
set_option maxHeartbeats 1000000 in
theorem rfeed_any {w : World} {m : Int} {A : Option Addr} {s : St} {n0 c : Nat} {b : Bool} (hn0 : s.held.length = n0) (hb0 : s.shut = b) (h : Arg w A s.held c) (X : Option Addr) (l : Bs) (n k : Nat) (hn : l.length = n) (hX : Rb w X l) (hXn : X = none → k = 0) (hs : s.held.length ≤ 100000000) (hl : l.length ≤ 100000000) :
    Calls Try.prog 12 #[.agg #[.int .i64 m, .slice A n0 c, .bool b], .slice X n k] w (rfeedPost w m A s l) := by
  subst hn; subst hn0
  obtain ⟨w0, hw0⟩ : ∃ w0, w0 = (w.alloc (.cells #[.int .i64 m, .slice A s.held.length c, .bool b] 31)).alloc (.cells #[.int .i64 0, .slice none 0 0, .bool false] 31) := ⟨_, rfl⟩
  have B0 : Below w.heap.size w w0 := by rw [hw0]; exact two_below _ _ _
  have ca : Cel3 w0 w.heap.size (.int .i64 m) (.slice A s.held.length c) (.bool b) := by rw [hw0]; exact (Cel3.new w _ _ _ _).below (below_new _ _) (Nat.le_refl _)
  have cb : Cel3 w0 (w.heap.size + 1) (.int .i64 0) (.slice none 0 0) (.bool false) := by
    have := Cel3.new (w.alloc (.cells #[.int .i64 m, .slice A s.held.length c, .bool b] 31)) (.int .i64 0) (.slice none 0 0) (.bool false) 31
    rw [hw0]; simpa using this
  have HB0 := Lib.hid B0; have CA := Lib.hid ca; have CB := Lib.hid cb
  obtain ⟨a0, a1, a2, af0, af1, af2⟩ := ca
  obtain ⟨b0, b1, b2, bf0, bf1, bf2⟩ := cb
  have hgb := CB.out.lt
  have HZ : Hid (w0.heap.size = w.heap.size + 1 + 1) := by show _ = _; rw [hw0]; simp
  have hz0 := B0.size
  cases b
  case true =>
    have HF : Hid (feed s l = s) := by show _ = _; unfold feed; rw [hb0]; rfl
    have HE : Hid (feedE s = 14) := by show _ = _; unfold feedE; rw [hb0]; rfl
    have HA := Lib.hid h
    clear h B0 hX hXn
    go_enter Try.func12, Try.ntmps12
    go_wp2_with fail
    have HBF := two_below w (.cells #[.int .i64 m, .slice A s.held.length c, .bool true] 31) (.cells #[.int .i64 m, .slice A s.held.length c, .bool true] 31)
    refine bodyPost_ret (v := .tuple #[.agg #[.int .i64 m, .slice A s.held.length c, .bool true], .int .i64 14]) (by simp [results, Try.results12, go_sem]) rfl ⟨A, c, by rw [HE.out, HF.out, hb0]; rfl, by rw [HF.out]; exact arg_below HA.out HBF (Nat.le_refl _), From.same _ _, fun a ha => Or.inl ⟨a, ha, rfl⟩, HBF⟩
  case false =>
    have HF : Hid (feed s l = ⟨s.held ++ l, false⟩) := by show _ = _; unfold feed; rw [hb0]; rfl
    have HE : Hid (feedE s = 0) := by show _ = _; unfold feedE; rw [hb0]; rfl
    have HS1 := Lib.hid (src_rb (h.rd.below B0 (Nat.le_refl _)) h.non)
    have HX := Lib.hid (hX.below B0 (Nat.le_refl _))
    have HXN := Lib.hid hXn
    clear h B0 hX hXn
    go_enter Try.func12, Try.ntmps12
    go_wp2_with (at_builtin; (rw [← hw0]; refine wpList_mine rfl _ _ elmB _ rfl rfl (Mine.nil w0.heap.size 1 w0) _ rfl _ _ HS1.out (by omega) (by omega) (Nat.le_refl _) ?_))
    intro A1 c1 w1 m1 g1 d1
    rw [← hw0] at g1
    clear hw0
    replace m1 : MineB w0.heap.size w1 A1 s.held c1 := by rw [HZ.out]; exact m1
    have b1' : Below w0.heap.size w0 w1 := below_of_grown g1 (Nat.le_refl _) (by intro k e; cases e)
    have M1 := Lib.hid m1
    have HB1 := Lib.hid b1'
    have HX1 := Lib.hid (src_rb (HX.out.below b1' (Nat.le_refl _)) HXN.out)
    clear m1 g1 d1 a0 a1 a2 af0 af1 af2 b0 b1 b2 bf0 bf1 bf2
    go_wp2_with (at_builtin; (refine wpList_mine rfl _ _ elmB _ rfl rfl M1.out _ rfl _ _ HX1.out (by omega) (by omega) HB1.out.size ?_))
    intro A2 c2 w2 m2 g2 d2
    have b2' : Below w0.heap.size w1 w2 := below_of_grown g2 HB1.out.size (fun k e => by
      rw [Option.map_eq_some_iff] at e
      obtain ⟨a, ha, e⟩ := e
      rw [← e]; exact (M1.out.base ha).1)
    have M2 := Lib.hid m2
    have HB2 := Lib.hid (HB1.out.trans b2')
    obtain ⟨a0, a1, a2, af0, af1, af2⟩ := CA.out.below HB2.out (Nat.le_refl _)
    obtain ⟨b0, b1, b2, bf0, bf1, bf2⟩ := CB.out.below HB2.out (Nat.le_refl _)
    have hz2 := HB2.out.size
    clear m2 g2 d2 b1' b2'
    go_wp2_with fail
    have HBF := (((((HB0.out.trans (HB2.out.mono HB0.out.size)).setCell (p := ⟨w.heap.size, 1, none⟩) (Nat.le_refl _) (.slice A2 (s.held.length + l.length) c2)).setCell (p := ⟨w.heap.size + 1, 0, none⟩) (by simp) (.int .i64 m)).setCell (p := ⟨w.heap.size + 1, 1, none⟩) (by simp) (.slice A2 (s.held.length + l.length) c2)).setCell (p := ⟨w.heap.size + 1, 2, none⟩) (by simp) (.bool false))
    refine bodyPost_ret (v := .tuple #[.agg #[.int .i64 m, .slice A2 (s.held.length + l.length) c2, .bool false], .int .i64 0]) (by simp [results, Try.results12, go_sem, b0, b1, b2]) rfl ⟨A2, c2, by rw [HE.out, HF.out]; simp, ?_, fun a ha => Or.inr ?_, fun a ha => Or.inr (by simpa using (M2.out.base ha).2.1), HBF⟩
    · rw [HF.out]
      have hm : MineB w0.heap.size w2 A2 (s.held ++ l) c2 := by
        have := M2.out
        rw [map_app, ← List.length_append] at this
        exact this
      refine arg_only (arg_mine hm) (F := fun j => j < w0.heap.size) ((((Only.refl _ w2).setCell (ad := ⟨w.heap.size, 1, none⟩) (Or.inl CA.out.lt) _).setCell (ad := ⟨w.heap.size + 1, 0, none⟩) (Or.inl CB.out.lt) _).setCell (ad := ⟨w.heap.size + 1, 1, none⟩) (Or.inl CB.out.lt) _ |>.setCell (ad := ⟨w.heap.size + 1, 2, none⟩) (Or.inl CB.out.lt) _) (fun a ha hf => by
        have := (hm.base ha).1
        omega)
    · have := (M2.out.base ha).1
      omega
end Go.Proofs.Ytmphielkohnpgaa.Dr
