/- Proves what the methods Bytes and Left of a reader return. Conditions: few bytes. -/
import Derived.Test.YthlfahblnpijaaaDoorVa
import Derived.Test.YthlfahblnpijaaaDoorVp
namespace Go.Proofs.YthlfahblnpijaaaDoor.Vn
open Go.RowKit Vm Ap Vw Va Vg Vc Vp

/-- The reader in block g has the bytes l left; it and its bytes lie from block B on. -/
def Rdr (B : Nat) (w : World) (g : Nat) (l : Bs) : Prop :=
  ∃ A c, w.heap[g]? = some (.cells #[.slice A l.length c, .bool true] 89 (0, 0)) ∧ B ≤ g ∧ l.length ≤ c ∧ c ≤ maxLen ∧ (A = none → c = 0) ∧ Rb w A l ∧ ∀ a, A = some a → B ≤ a.block ∧ a.block < g
theorem Rdr.lt {B : Nat} {w : World} {g : Nat} {l : Bs} (h : Rdr B w g l) : g < w.heap.size := by
  obtain ⟨A, c, h1, _⟩ := h
  exact (Array.getElem?_eq_some_iff.1 h1).1
theorem Rdr.below {B B' : Nat} {w w' : World} {g : Nat} {l : Bs} (h : Rdr B w g l) (hb : Below B' w w') (hB : w.heap.size ≤ B') : Rdr B w' g l := by
  have hg := h.lt
  obtain ⟨A, c, h1, h2, h3, h4, h5, h6, h7⟩ := h
  exact ⟨A, c, by rw [hb.block g (by omega)]; exact h1, h2, h3, h4, h5, h6.below hb hB, h7⟩
/-- What changes only from block C on leaves a reader that lies below C as it is. -/
theorem Rdr.low {B C : Nat} {w w' : World} {g : Nat} {l : Bs} (h : Rdr B w g l) (hb : Below C w w') (hg : g < C) : Rdr B w' g l := by
  obtain ⟨A, c, h1, h2, h3, h4, h5, h6, h7⟩ := h
  refine ⟨A, c, by rw [hb.block g hg]; exact h1, h2, h3, h4, h5, fun h0 => ?_, h7⟩
  obtain ⟨b, o, e, hlt, hc⟩ := h6 h0
  have h8 := (h7 _ e).2
  exact ⟨b, o, e, Nat.lt_of_lt_of_le hlt hb.size, fun j hj => by rw [hb.cell (p := ⟨b, o + j, none⟩) (by show b < C; have : b < g := h8; omega)]; exact hc j hj⟩
theorem Rdr.drewN {B : Nat} {w : World} {g : Nat} {l : Bs} (h : Rdr B w g l) (n : Nat) : Rdr B (w.drewN n) g l := h
/-- A write below B leaves the reader as it is. -/
theorem Rdr.grown {B : Nat} {w w' : World} {g : Nat} {l : Bs} {row : Option Nat} (h : Rdr B w g l) (hg : w.grownBy w' row) (hr : ∀ k, row = some k → k < B) : Rdr B w' g l := by
  have hlt := h.lt
  obtain ⟨A, c, h1, h2, h3, h4, h5, h6, h7⟩ := h
  exact ⟨A, c, by rw [hg.block g hlt (fun e => by have := hr g e.symm; omega)]; exact h1, h2, h3, h4, h5, h6.grown hg (fun a e e' => by have := hr a.block e'.symm; have := (h7 a e).1; omega), h7⟩

def newPost (w : World) (l : Bs) : Ending → World → Prop := fun e w' => ∃ g, e = .returned (.pointer (some ⟨g, 0, none⟩)) ∧ Rdr w.heap.size w' g l ∧ Below w.heap.size w w'
set_option maxRecDepth 100000 in
set_option maxHeartbeats 400000 in
theorem new_any (A : Option Addr) (l : Bs) (c : Nat) (w : World) (hA : Rb w A l) (hl : l.length ≤ 1000000000) :
    Calls Tryd.prog 20 #[.slice A l.length c] w (newPost w l) := by
  go_enter Tryd.func20, Tryd.ntmps20
  go_wp2_with fail
  refine (clone_any A l c _ hA hl).mono ?_
  rintro e w1 ⟨v1, rfl, h1, b1⟩
  obtain ⟨C, d, sh⟩ := own_shape h1
  obtain rfl := sh.val
  have SH := Lib.hid sh
  have B1 := Lib.hid b1
  have hz := b1.size
  clear sh b1 h1
  go_wp2_with fail
  go_ret
  refine ⟨_, rfl, ⟨C, d, heap_alloc_new w1 _, hz, SH.out.le, SH.out.max, SH.out.non, SH.out.rd.below ((Below.refl _ _).alloc (Nat.le_refl _) _) (Nat.le_refl _), fun a e => ?_⟩, B1.out.alloc hz _⟩
  have := SH.out.base a e
  exact ⟨this.1, by omega⟩

/-- The fields of a reader, as the walks read them. -/
theorem rdr_cells {B : Nat} {w : World} {g : Nat} {l : Bs} (h : Rdr B w g l) : ∃ A c, w.cell? ⟨g, 0, none⟩ = some (.slice A l.length c) ∧ w.cell? ⟨g, 1, none⟩ = some (.bool true) ∧ w.frozen? ⟨g, 0, none⟩ = false ∧ l.length ≤ c ∧ Rb w A l ∧ (A = none → c = 0) ∧
    ∀ k (w' : World), k ≤ l.length → w.grownBy w' none → Rdr B (w'.setCell ⟨g, 0, none⟩ (.slice (cutA A k c) (l.length - k) (c - k))) g (l.drop k) := by
  have hlt := h.lt
  obtain ⟨A, c, h1, h2, h3, h4, h5, h6, h7⟩ := h
  refine ⟨A, c, by rw [cell_of_row w g 0 _ _ _ h1]; rfl, by rw [cell_of_row w g 1 _ _ _ h1]; rfl, frozen_of_row w g 0 _ _ h1, h3, h6, h5, fun k w' hk hg => ?_⟩
  have h1' : w'.heap[g]? = some (.cells #[.slice A l.length c, .bool true] 89 (0, 0)) := by rw [hg.block g hlt (by simp)]; exact h1
  have hst := heap_setCell_same w' g 0 _ _ (.slice (cutA A k c) (l.length - k) (c - k)) h1'
  refine ⟨cutA A k c, c - k, by rw [hst, List.length_drop]; rfl, h2, by rw [List.length_drop]; omega, by omega, ?_, ?_, ?_⟩
  · intro e
    unfold cutA at e
    split at e
    · omega
    · rw [Option.map_eq_none_iff] at e; rw [h5 e]; omega
  · have hr := (h6.grown hg (row := none) (fun a e => by simp)).cut k c h3
    refine hr.grown (row := some g) ⟨rfl, rfl, rfl, by simp, fun j _ hj => heap_setCell_other w' ⟨g, 0, none⟩ j _ (fun e => hj (by simp [e]))⟩ (fun a e => ?_)
    obtain ⟨a0, e0, eb⟩ := cutA_block e
    have := Nat.ne_of_lt (h7 a0 e0).2
    rw [← eb]; simpa using this
  · intro a e
    obtain ⟨a0, e0, eb⟩ := cutA_block e
    rw [← eb]; exact h7 a0 e0

/-- What a reader leaves that has taken k bytes: the answer, the bytes that are left; nothing else has changed. -/
def tookPost (B : Nat) (w : World) (g : Nat) (l : Bs) (k : Nat) (v : Value) : Ending → World → Prop := fun e w' => e = .returned v ∧ Rdr B w' g (l.drop k) ∧ w.grownBy w' (some g)
theorem grown_set {w w' : World} {g : Nat} (h : w.grownBy w' none) (u : Value) : w.grownBy (w'.setCell ⟨g, 0, none⟩ u) (some g) :=
  ⟨h.os, h.tape, h.output, by simpa using h.size, fun j hj hne => (heap_setCell_other w' ⟨g, 0, none⟩ j _ (fun e => hne (by simp [e]))).trans (h.block j hj (by simp))⟩
theorem grown_refl (w : World) (row : Option Nat) : w.grownBy w row := World.grownBy.refl w row
theorem cut_same (b o c : Nat) : cutA (some ⟨b, o, none⟩) c c = some ⟨b, o, none⟩ := by rw [cutA, if_pos rfl]
theorem cut_more (b o : Nat) {c s : Nat} (h : c ≠ s) : cutA (some ⟨b, o, none⟩) s c = some ⟨b, o + s, none⟩ := by rw [cutA, if_neg h, Option.map_some, add_plain]
def numR (l : Bs) : Value := .tuple #[.int .u64 (getN l : Int), .int .i64 (getE l : Int)]
theorem get_pos {l : Bs} (h : getE l = 0) : 0 < l.length := by
  have := (get_has l h).1
  have := enc_pos (getN l)
  have := (get_lt l).2.1
  omega

set_option maxRecDepth 100000 in
set_option maxHeartbeats 1000000 in
theorem takeN_any (B : Nat) (w : World) (g : Nat) (l : Bs) (hr : Rdr B w g l) (hl : l.length ≤ 1000000000) :
    Calls Tryd.prog 57 #[.pointer (some ⟨g, 0, none⟩), .func (.func 58) #[] #[]] w (tookPost B w g l (getS l) (numR l)) := by
  have HR := Lib.hid hr
  obtain ⟨A, c, hc0, hc1, hf, hle, hrb, hnon, hset⟩ := rdr_cells hr
  have HSET := Lib.hid hset
  have HG := Lib.hid (get_any A l c w hrb hl)
  obtain ⟨g1, g2, g3⟩ := get_lt l
  clear hr hset
  by_cases he : getE l = 0
  · have HGR : Hid (getR l = .tuple #[.int .u64 (getN l : Int), .int .i64 (getS l : Int), .int .i64 0]) := by show _ = _; unfold getR; rw [he]; rfl
    have HNR : Hid (numR l = .tuple #[.int .u64 (getN l : Int), .int .i64 0]) := by show _ = _; unfold numR; rw [he]; rfl
    obtain ⟨b, o, rfl, _, _⟩ := hrb (get_pos he)
    have HS := Lib.hid (HSET.out (getS l) w g2 (grown_refl w none))
    clear he hnon HSET
    unfold big at g1
    generalize getN l = n at *
    generalize getS l = s at *
    by_cases hcs : c = s
    · subst hcs
      have HS2 : Hid (Rdr B (w.setCell ⟨g, 0, none⟩ (.slice (some ⟨b, o, none⟩) 0 0)) g (l.drop c)) := by
        have := HS.out
        rw [cut_same, show l.length - c = 0 from by omega, show c - c = 0 from by omega] at this
        exact this
      go_enter Tryd.func57, Tryd.ntmps57
      go_wp2_with fail
      refine HG.out.mono ?_
      rintro e w' ⟨rfl, rfl⟩
      rw [HGR.out]
      go_wp2_with fail
      go_ret2
      exact ⟨by rw [HNR.out]; rfl, HS2.out, grown_set (grown_refl w none) _⟩
    · have HS2 : Hid (Rdr B (w.setCell ⟨g, 0, none⟩ (.slice (some ⟨b, o + s, none⟩) (l.length - s) (c - s))) g (l.drop s)) := by
        have := HS.out
        rw [cut_more _ _ hcs] at this
        exact this
      go_enter Tryd.func57, Tryd.ntmps57
      go_wp2_with fail
      refine HG.out.mono ?_
      rintro e w' ⟨rfl, rfl⟩
      rw [HGR.out]
      go_wp2_with fail
      go_ret2
      exact ⟨by rw [HNR.out]; rfl, HS2.out, grown_set (grown_refl w none) _⟩
  · obtain ⟨e1, e2, e3⟩ := get_no l he
    have HGR : Hid (getR l = .tuple #[.int .u64 0, .int .i64 0, .int .i64 (getE l : Int)]) := by show _ = _; unfold getR; rw [e2, e3]; rfl
    have HNR : Hid (numR l = .tuple #[.int .u64 0, .int .i64 (getE l : Int)]) := by show _ = _; unfold numR; rw [e2]; rfl
    have hne : ((getE l : Int) != 0) = true := by rw [bne_iff_ne]; omega
    have HE3 := Lib.hid e3
    clear he e1 e2 e3 g1 g2 g3 HSET
    generalize getE l = E at *
    go_enter Tryd.func57, Tryd.ntmps57
    go_wp2_with fail
    refine HG.out.mono ?_
    rintro e w' ⟨rfl, rfl⟩
    rw [HGR.out]
    go_wp2_with fail
    go_ret2
    exact ⟨by rw [HNR.out]; rfl, by rw [HE3.out]; exact HR.out, grown_refl w _⟩

set_option maxRecDepth 100000 in
set_option maxHeartbeats 400000 in
theorem number_any (B : Nat) (w : World) (g : Nat) (l : Bs) (hr : Rdr B w g l) (hl : l.length ≤ 1000000000) :
    Calls Tryd.prog 35 #[.pointer (some ⟨g, 0, none⟩)] w (tookPost B w g l (getS l) (numR l)) := by
  have HT := Lib.hid (takeN_any B w g l hr hl)
  have HR : Hid (∃ n e : Int, numR l = .tuple #[.int .u64 n, .int .i64 e]) := ⟨_, _, rfl⟩
  obtain ⟨n, e0, hR⟩ := HR.out
  rw [hR] at HT ⊢
  clear HR hR
  go_enter Tryd.func35, Tryd.ntmps35
  go_wp2_with fail
  refine HT.out.mono ?_
  rintro e w' ⟨rfl, h1, h2⟩
  have H1 := Lib.hid h1; have H2 := Lib.hid h2; clear h1 h2
  go_wp2_with fail
  go_ret2
  exact ⟨rfl, H1.out, H2.out⟩

end Go.Proofs.YthlfahblnpijaaaDoor.Vn
namespace Go.Proofs.YthlfahblnpijaaaDoor.Vs
open Go.RowKit Vm Ap Vw Va Vg Vc Vp Vn

/-- What a reader leaves that has taken bytes. -/
def tookB (B : Nat) (w : World) (g : Nat) (l : Bs) (most : Int) : Ending → World → Prop := fun e w' =>
  ∃ v, e = .returned (.tuple #[v, .int .i64 ((partV l most).2.2 : Int)]) ∧ Own w.heap.size w' v (partV l most).1 ∧ Rdr B w' g (l.drop (partV l most).2.1) ∧ w.grownBy w' (some g)
theorem part_zero {l : Bs} {most : Int} (h : (partV l most).2.2 ≠ 0) : (partV l most).1 = [] ∧ (partV l most).2.1 = 0 := by
  by_cases h1 : most < 0
  · rw [part_arg h1]; exact ⟨rfl, rfl⟩
  · by_cases h2 : getE l = 0
    · by_cases h3 : most < (getN l : Int)
      · rw [part_long h1 h2 h3]; exact ⟨rfl, rfl⟩
      · by_cases h4 : l.length - getS l < getN l
        · rw [part_short h1 h2 h3 h4]; exact ⟨rfl, rfl⟩
        · rw [part_ok h1 h2 h3 h4] at h; exact absurd rfl h
    · rw [part_err h1 h2]; exact ⟨rfl, rfl⟩
theorem part_has {l : Bs} {most : Int} (h : (partV l most).2.2 = 0) : 0 < l.length := by
  by_cases h1 : most < 0
  · rw [part_arg h1] at h; cases h
  · by_cases h2 : getE l = 0
    · exact get_pos h2
    · rw [part_err h1 h2] at h; exact absurd h h2
set_option maxRecDepth 100000 in
set_option maxHeartbeats 400000 in
/-- The closure that takes bytes with their length. -/
theorem bytes1_any (A : Option Addr) (l : Bs) (c m : Nat) (most : Int) (w : World) (hm : w.cell? ⟨m, 0, none⟩ = some (.int .i64 most)) (hA : Rb w A l) (hl : l.length ≤ 1000000000) (hlc : l.length ≤ c) (hm1 : -9223372036854775808 ≤ most) (hm2 : most ≤ 9223372036854775807) :
    Calls Tryd.prog 78 #[.slice A l.length c, .pointer (some ⟨m, 0, none⟩)] w (partPost w l most) := by
  have HG := Lib.hid (getB_any A l c most w hA hl hlc hm1 hm2)
  clear hA
  go_enter Tryd.func78, Tryd.ntmps78
  go_wp2_with fail
  refine HG.out.mono ?_
  rintro e w1 ⟨v, rfl, h1, h2⟩
  have H1 := Lib.hid h1; have H2 := Lib.hid h2; clear h1 h2
  go_wp2_with fail
  go_ret3
  exact ⟨v, rfl, H1.out, H2.out⟩

set_option maxRecDepth 100000 in
set_option maxHeartbeats 2000000 in
theorem takeS_any (B : Nat) (w : World) (g m : Nat) (l : Bs) (most : Int) (hm : w.cell? ⟨m, 0, none⟩ = some (.int .i64 most)) (hr : Rdr B w g l) (hl : l.length ≤ 1000000000) (hm1 : -9223372036854775808 ≤ most) (hm2 : most ≤ 9223372036854775807) :
    Calls Tryd.prog 77 #[.pointer (some ⟨g, 0, none⟩), .func (.func 78) #[] #[.pointer (some ⟨m, 0, none⟩)]] w (tookB B w g l most) := by
  have HR := Lib.hid hr
  have hgl := hr.lt
  obtain ⟨A, c, hc0, hc1, hf, hle, hrb, hnon, hset⟩ := rdr_cells hr
  have HSET := Lib.hid hset
  have HG := Lib.hid (bytes1_any A l c m most w hm hrb hl hle hm1 hm2)
  have g2 := (part_size l most).1
  clear hr hset hm hm1 hm2
  by_cases he : (partV l most).2.2 = 0
  · obtain ⟨b, o, rfl, _, _⟩ := hrb (part_has he)
    have HS := Lib.hid (fun w1 h => HSET.out (partV l most).2.1 w1 g2 h)
    unfold partPost at HG
    rw [he] at HG
    have HE := Lib.hid he
    clear hnon HSET he
    have HT : Hid (∀ v w', Own w.heap.size w' v (partV l most).1 → Rdr B w' g (l.drop (partV l most).2.1) → w.grownBy w' (some g) → tookB B w g l most (.returned (.tuple #[v, .int .i64 0])) w') := fun v w' h1 h2 h3 => ⟨v, by rw [HE.out]; rfl, h1, h2, h3⟩
    generalize (partV l most).2.1 = s at *
    generalize (partV l most).1 = p at *
    by_cases hcs : c = s
    · subst hcs
      have HS2 : Hid (∀ w1 : World, w.grownBy w1 none → Rdr B (w1.setCell ⟨g, 0, none⟩ (.slice (some ⟨b, o, none⟩) 0 0)) g (l.drop c)) := fun w1 h => by
        have := HS.out w1 h
        rw [cut_same, show l.length - c = 0 from by omega, show c - c = 0 from by omega] at this
        exact this
      go_enter Tryd.func77, Tryd.ntmps77
      go_wp2_with fail
      refine HG.out.mono ?_
      rintro e w1 ⟨v, rfl, h1, h2⟩
      have H1 := Lib.hid h1; have H2 := Lib.hid h2
      have hc0' : w1.cell? ⟨g, 0, none⟩ = some (.slice (some ⟨b, o, none⟩) l.length c) := by rw [h2.cell (p := ⟨g, 0, none⟩) hgl]; exact hc0
      have hf' : w1.frozen? ⟨g, 0, none⟩ = false := by rw [h2.frozen (p := ⟨g, 0, none⟩) hgl]; exact hf
      clear h1 h2
      go_wp2_with fail
      go_ret2
      have hgr := grown_of_below H2.out (Nat.le_refl _) none
      exact HT.out _ _ (ownsRow_setCell_below H1.out (a := ⟨g, 0, none⟩) hgl _) (HS2.out _ hgr) (grown_set hgr _)
    · have HS2 : Hid (∀ w1 : World, w.grownBy w1 none → Rdr B (w1.setCell ⟨g, 0, none⟩ (.slice (some ⟨b, o + s, none⟩) (l.length - s) (c - s))) g (l.drop s)) := fun w1 h => by
        have := HS.out w1 h
        rw [cut_more _ _ hcs] at this
        exact this
      go_enter Tryd.func77, Tryd.ntmps77
      go_wp2_with fail
      refine HG.out.mono ?_
      rintro e w1 ⟨v, rfl, h1, h2⟩
      have H1 := Lib.hid h1; have H2 := Lib.hid h2
      have hc0' : w1.cell? ⟨g, 0, none⟩ = some (.slice (some ⟨b, o, none⟩) l.length c) := by rw [h2.cell (p := ⟨g, 0, none⟩) hgl]; exact hc0
      have hf' : w1.frozen? ⟨g, 0, none⟩ = false := by rw [h2.frozen (p := ⟨g, 0, none⟩) hgl]; exact hf
      clear h1 h2
      go_wp2_with fail
      go_ret2
      have hgr := grown_of_below H2.out (Nat.le_refl _) none
      exact HT.out _ _ (ownsRow_setCell_below H1.out (a := ⟨g, 0, none⟩) hgl _) (HS2.out _ hgr) (grown_set hgr _)
  · obtain ⟨e2, e3⟩ := part_zero he
    have hne : (((partV l most).2.2 : Int) != 0) = true := by rw [bne_iff_ne]; omega
    unfold partPost at HG
    rw [e2, e3] at HG
    have HT : Hid (∀ w', Below w.heap.size w w' → tookB B w g l most (.returned (.tuple #[.slice none 0 0, .int .i64 ((partV l most).2.2 : Int)])) w') := fun w' h =>
      ⟨.slice none 0 0, rfl, by rw [e2]; exact own_nil _ _, by rw [e3]; exact HR.out.below h (Nat.le_refl _), grown_of_below h (Nat.le_refl _) _⟩
    clear he e2 e3 g2 HSET
    generalize (partV l most).2.2 = E at *
    go_enter Tryd.func77, Tryd.ntmps77
    go_wp2_with fail
    refine HG.out.mono ?_
    rintro e w1 ⟨v, rfl, h1, h2⟩
    have H1 := Lib.hid h1; have H2 := Lib.hid h2; clear h1 h2
    go_wp2_with fail
    go_ret2
    exact HT.out _ H2.out

set_option maxRecDepth 100000 in
set_option maxHeartbeats 400000 in
theorem bytes_any (B : Nat) (w : World) (g : Nat) (l : Bs) (most : Int) (hr : Rdr B w g l) (hl : l.length ≤ 1000000000) (hm1 : -9223372036854775808 ≤ most) (hm2 : most ≤ 9223372036854775807) :
    Calls Tryd.prog 59 #[.pointer (some ⟨g, 0, none⟩), .int .i64 most] w (tookB B w g l most) := by
  have hb := (Below.refl w.heap.size w).alloc (Nat.le_refl _) (.cells #[.int .i64 most] 3)
  have hc : (w.alloc (.cells #[.int .i64 most] 3)).cell? ⟨w.heap.size, 0, none⟩ = some (.int .i64 most) := by rw [cell_of_row _ _ 0 _ _ (0, 0) (heap_alloc_new w _)]; rfl
  have HT := Lib.hid (takeS_any B _ g w.heap.size l most hc (hr.below hb (Nat.le_refl _)) hl hm1 hm2)
  have HB := Lib.hid hb
  clear hc hb hr
  go_enter Tryd.func59, Tryd.ntmps59
  go_wp2_with fail
  refine HT.out.mono ?_
  rintro e w1 ⟨v, rfl, h1, h2, h3⟩
  have H1 := Lib.hid h1; have H2 := Lib.hid h2; have H3 := Lib.hid h3; clear h1 h2 h3
  have hz := HB.out.size
  go_wp2_with fail
  go_ret2
  refine ⟨v, rfl, own_base H1.out hz, H2.out, ?_⟩
  have hb := HB.out
  have h3 := H3.out
  exact ⟨h3.os.trans hb.os, h3.tape.trans hb.tape, h3.output.trans hb.output, Nat.le_trans hz h3.size, fun k hk hne => (h3.block k (Nat.lt_of_lt_of_le hk hz) hne).trans (hb.block k hk)⟩

set_option maxRecDepth 100000 in
set_option maxHeartbeats 400000 in
theorem left_any (B : Nat) (w : World) (g : Nat) (l : Bs) (hr : Rdr B w g l) :
    Calls Tryd.prog 22 #[.pointer (some ⟨g, 0, none⟩)] w fun e w' => e = .returned (.int .i64 (l.length : Int)) ∧ w = w' := by
  obtain ⟨A, c, hc0, hc1, hf, hle, hrb, hnon, hset⟩ := rdr_cells hr
  clear hset hr hrb
  go_enter Tryd.func22, Tryd.ntmps22
  go_wp2_with fail
  go_ret
  exact ⟨rfl, rfl⟩
end Go.Proofs.YthlfahblnpijaaaDoor.Vs
