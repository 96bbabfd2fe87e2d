/- Proves what the methods Bytes and Left of a reader return. Conditions: few bytes. -/
import Derived.Test.YthlfahblnpijaaaVna
namespace Go.Proofs.Ythlfahblnpijaaa.Vs
open Go.RowKit Vm Ap Vw Va Vg Vc Vp Vn

/-- What a reader leaves that has taken bytes. -/
def tookB (B : Nat) (w : World) (g : Nat) (l : Bs) (most : Int) : Ending → World → Prop := fun e w' =>
  ∃ v, e = .returned (.tuple #[v, .int .i64 ((partV l most).2.2 : Int)]) ∧ Own w.heap.size w' v (partV l most).1 ∧ Rdr B w' g (l.drop (partV l most).2.1) ∧ w.grownBy w' (some g)
theorem part_zero {l : Bs} {most : Int} (h : (partV l most).2.2 ≠ 0) : (partV l most).1 = [] ∧ (partV l most).2.1 = 0 := by
  by_cases h1 : most < 0
  · rw [part_arg h1]; exact ⟨rfl, rfl⟩
  · by_cases h2 : getE l = 0
    · by_cases h3 : most < (getN l : Int)
      · rw [part_long h1 h2 h3]; exact ⟨rfl, rfl⟩
      · by_cases h4 : l.length - getS l < getN l
        · rw [part_short h1 h2 h3 h4]; exact ⟨rfl, rfl⟩
        · rw [part_ok h1 h2 h3 h4] at h; exact absurd rfl h
    · rw [part_err h1 h2]; exact ⟨rfl, rfl⟩
theorem part_has {l : Bs} {most : Int} (h : (partV l most).2.2 = 0) : 0 < l.length := by
  by_cases h1 : most < 0
  · rw [part_arg h1] at h; cases h
  · by_cases h2 : getE l = 0
    · exact get_pos h2
    · rw [part_err h1 h2] at h; exact absurd h h2
set_option maxRecDepth 100000 in
set_option maxHeartbeats 400000 in
/-- The closure that takes bytes with their length. -/
theorem bytes1_any (A : Option Addr) (l : Bs) (c m : Nat) (most : Int) (w : World) (hm : w.cell? ⟨m, 0, none⟩ = some (.int .i64 most)) (hA : Rb w A l) (hl : l.length ≤ 1000000000) (hlc : l.length ≤ c) (hm1 : -9223372036854775808 ≤ most) (hm2 : most ≤ 9223372036854775807) :
    Calls Try.prog 84 #[.slice A l.length c, .pointer (some ⟨m, 0, none⟩)] w (partPost w l most) := by
  have HG := Lib.hid (getB_any A l c most w hA hl hlc hm1 hm2)
  clear hA
  go_enter Try.func84, Try.ntmps84
  go_wp2_with fail
  refine HG.out.mono ?_
  rintro e w1 ⟨v, rfl, h1, h2⟩
  have H1 := Lib.hid h1; have H2 := Lib.hid h2; clear h1 h2
  go_wp2_with fail
  go_ret3
  exact ⟨v, rfl, H1.out, H2.out⟩

set_option maxRecDepth 100000 in
set_option maxHeartbeats 2000000 in
theorem takeS_any (B : Nat) (w : World) (g m : Nat) (l : Bs) (most : Int) (hm : w.cell? ⟨m, 0, none⟩ = some (.int .i64 most)) (hr : Rdr B w g l) (hl : l.length ≤ 1000000000) (hm1 : -9223372036854775808 ≤ most) (hm2 : most ≤ 9223372036854775807) :
    Calls Try.prog 83 #[.pointer (some ⟨g, 0, none⟩), .func (.func 84) #[] #[.pointer (some ⟨m, 0, none⟩)]] w (tookB B w g l most) := by
  have HR := Lib.hid hr
  have hgl := hr.lt
  obtain ⟨A, c, hc0, hc1, hf, hle, hrb, hnon, hset⟩ := rdr_cells hr
  have HSET := Lib.hid hset
  have HG := Lib.hid (bytes1_any A l c m most w hm hrb hl hle hm1 hm2)
  have g2 := (part_size l most).1
  clear hr hset hm hm1 hm2
  by_cases he : (partV l most).2.2 = 0
  · obtain ⟨b, o, rfl, _, _⟩ := hrb (part_has he)
    have HS := Lib.hid (fun w1 h => HSET.out (partV l most).2.1 w1 g2 h)
    unfold partPost at HG
    rw [he] at HG
    have HE := Lib.hid he
    clear hnon HSET he
    have HT : Hid (∀ v w', Own w.heap.size w' v (partV l most).1 → Rdr B w' g (l.drop (partV l most).2.1) → w.grownBy w' (some g) → tookB B w g l most (.returned (.tuple #[v, .int .i64 0])) w') := fun v w' h1 h2 h3 => ⟨v, by rw [HE.out]; rfl, h1, h2, h3⟩
    generalize (partV l most).2.1 = s at *
    generalize (partV l most).1 = p at *
    by_cases hcs : c = s
    · subst hcs
      have HS2 : Hid (∀ w1 : World, w.grownBy w1 none → Rdr B (w1.setCell ⟨g, 0, none⟩ (.slice (some ⟨b, o, none⟩) 0 0)) g (l.drop c)) := fun w1 h => by
        have := HS.out w1 h
        rw [cut_same, show l.length - c = 0 from by omega, show c - c = 0 from by omega] at this
        exact this
      go_enter Try.func83, Try.ntmps83
      go_wp2_with fail
      refine HG.out.mono ?_
      rintro e w1 ⟨v, rfl, h1, h2⟩
      have H1 := Lib.hid h1; have H2 := Lib.hid h2
      have hc0' : w1.cell? ⟨g, 0, none⟩ = some (.slice (some ⟨b, o, none⟩) l.length c) := by rw [h2.cell (p := ⟨g, 0, none⟩) hgl]; exact hc0
      have hf' : w1.frozen? ⟨g, 0, none⟩ = false := by rw [h2.frozen (p := ⟨g, 0, none⟩) hgl]; exact hf
      clear h1 h2
      go_wp2_with fail
      go_ret2
      have hgr := grown_of_below H2.out (Nat.le_refl _) none
      exact HT.out _ _ (ownsRow_setCell_below H1.out (a := ⟨g, 0, none⟩) hgl _) (HS2.out _ hgr) (grown_set hgr _)
    · have HS2 : Hid (∀ w1 : World, w.grownBy w1 none → Rdr B (w1.setCell ⟨g, 0, none⟩ (.slice (some ⟨b, o + s, none⟩) (l.length - s) (c - s))) g (l.drop s)) := fun w1 h => by
        have := HS.out w1 h
        rw [cut_more _ _ hcs] at this
        exact this
      go_enter Try.func83, Try.ntmps83
      go_wp2_with fail
      refine HG.out.mono ?_
      rintro e w1 ⟨v, rfl, h1, h2⟩
      have H1 := Lib.hid h1; have H2 := Lib.hid h2
      have hc0' : w1.cell? ⟨g, 0, none⟩ = some (.slice (some ⟨b, o, none⟩) l.length c) := by rw [h2.cell (p := ⟨g, 0, none⟩) hgl]; exact hc0
      have hf' : w1.frozen? ⟨g, 0, none⟩ = false := by rw [h2.frozen (p := ⟨g, 0, none⟩) hgl]; exact hf
      clear h1 h2
      go_wp2_with fail
      go_ret2
      have hgr := grown_of_below H2.out (Nat.le_refl _) none
      exact HT.out _ _ (ownsRow_setCell_below H1.out (a := ⟨g, 0, none⟩) hgl _) (HS2.out _ hgr) (grown_set hgr _)
  · obtain ⟨e2, e3⟩ := part_zero he
    have hne : (((partV l most).2.2 : Int) != 0) = true := by rw [bne_iff_ne]; omega
    unfold partPost at HG
    rw [e2, e3] at HG
    have HT : Hid (∀ w', Below w.heap.size w w' → tookB B w g l most (.returned (.tuple #[.slice none 0 0, .int .i64 ((partV l most).2.2 : Int)])) w') := fun w' h =>
      ⟨.slice none 0 0, rfl, by rw [e2]; exact own_nil _ _, by rw [e3]; exact HR.out.below h (Nat.le_refl _), grown_of_below h (Nat.le_refl _) _⟩
    clear he e2 e3 g2 HSET
    generalize (partV l most).2.2 = E at *
    go_enter Try.func83, Try.ntmps83
    go_wp2_with fail
    refine HG.out.mono ?_
    rintro e w1 ⟨v, rfl, h1, h2⟩
    have H1 := Lib.hid h1; have H2 := Lib.hid h2; clear h1 h2
    go_wp2_with fail
    go_ret2
    exact HT.out _ H2.out

set_option maxRecDepth 100000 in
set_option maxHeartbeats 400000 in
theorem bytes_any (B : Nat) (w : World) (g : Nat) (l : Bs) (most : Int) (hr : Rdr B w g l) (hl : l.length ≤ 1000000000) (hm1 : -9223372036854775808 ≤ most) (hm2 : most ≤ 9223372036854775807) :
    Calls Try.prog 82 #[.pointer (some ⟨g, 0, none⟩), .int .i64 most] w (tookB B w g l most) := by
  have hb := (Below.refl w.heap.size w).alloc (Nat.le_refl _) (.cells #[.int .i64 most] 3)
  have hc : (w.alloc (.cells #[.int .i64 most] 3)).cell? ⟨w.heap.size, 0, none⟩ = some (.int .i64 most) := by rw [cell_of_row _ _ 0 _ _ (0, 0) (heap_alloc_new w _)]; rfl
  have HT := Lib.hid (takeS_any B _ g w.heap.size l most hc (hr.below hb (Nat.le_refl _)) hl hm1 hm2)
  have HB := Lib.hid hb
  clear hc hb hr
  go_enter Try.func82, Try.ntmps82
  go_wp2_with fail
  refine HT.out.mono ?_
  rintro e w1 ⟨v, rfl, h1, h2, h3⟩
  have H1 := Lib.hid h1; have H2 := Lib.hid h2; have H3 := Lib.hid h3; clear h1 h2 h3
  have hz := HB.out.size
  go_wp2_with fail
  go_ret2
  refine ⟨v, rfl, own_base H1.out hz, H2.out, ?_⟩
  have hb := HB.out
  have h3 := H3.out
  exact ⟨h3.os.trans hb.os, h3.tape.trans hb.tape, h3.output.trans hb.output, Nat.le_trans hz h3.size, fun k hk hne => (h3.block k (Nat.lt_of_lt_of_le hk hz) hne).trans (hb.block k hk)⟩

set_option maxRecDepth 100000 in
set_option maxHeartbeats 400000 in
theorem left_any (B : Nat) (w : World) (g : Nat) (l : Bs) (hr : Rdr B w g l) :
    Calls Try.prog 41 #[.pointer (some ⟨g, 0, none⟩)] w fun e w' => e = .returned (.int .i64 (l.length : Int)) ∧ w = w' := by
  obtain ⟨A, c, hc0, hc1, hf, hle, hrb, hnon, hset⟩ := rdr_cells hr
  clear hset hr hrb
  go_enter Try.func41, Try.ntmps41
  go_wp2_with fail
  go_ret
  exact ⟨rfl, rfl⟩
end Go.Proofs.Ythlfahblnpijaaa.Vs
