/- Proves what New and the method Number of a reader return, and what they leave in memory. Conditions: few bytes. -/
import Derived.Test.YthlfahblnpijaaaVa
import Derived.Test.YthlfahblnpijaaaVp
namespace Go.Proofs.Ythlfahblnpijaaa.Vn
open Go.RowKit Vm Ap Vw Va Vg Vc Vp

/-- The reader in block g has the bytes l left; it and its bytes lie from block B on. -/
def Rdr (B : Nat) (w : World) (g : Nat) (l : Bs) : Prop :=
  ∃ A c, w.heap[g]? = some (.cells #[.slice A l.length c, .bool true] 101 (0, 0)) ∧ B ≤ g ∧ l.length ≤ c ∧ c ≤ maxLen ∧ (A = none → c = 0) ∧ Rb w A l ∧ ∀ a, A = some a → B ≤ a.block ∧ a.block < g
theorem Rdr.lt {B : Nat} {w : World} {g : Nat} {l : Bs} (h : Rdr B w g l) : g < w.heap.size := by
  obtain ⟨A, c, h1, _⟩ := h
  exact (Array.getElem?_eq_some_iff.1 h1).1
theorem Rdr.below {B B' : Nat} {w w' : World} {g : Nat} {l : Bs} (h : Rdr B w g l) (hb : Below B' w w') (hB : w.heap.size ≤ B') : Rdr B w' g l := by
  have hg := h.lt
  obtain ⟨A, c, h1, h2, h3, h4, h5, h6, h7⟩ := h
  exact ⟨A, c, by rw [hb.block g (by omega)]; exact h1, h2, h3, h4, h5, h6.below hb hB, h7⟩
/-- What changes only from block C on leaves a reader that lies below C as it is. -/
theorem Rdr.low {B C : Nat} {w w' : World} {g : Nat} {l : Bs} (h : Rdr B w g l) (hb : Below C w w') (hg : g < C) : Rdr B w' g l := by
  obtain ⟨A, c, h1, h2, h3, h4, h5, h6, h7⟩ := h
  refine ⟨A, c, by rw [hb.block g hg]; exact h1, h2, h3, h4, h5, fun h0 => ?_, h7⟩
  obtain ⟨b, o, e, hlt, hc⟩ := h6 h0
  have h8 := (h7 _ e).2
  exact ⟨b, o, e, Nat.lt_of_lt_of_le hlt hb.size, fun j hj => by rw [hb.cell (p := ⟨b, o + j, none⟩) (by show b < C; have : b < g := h8; omega)]; exact hc j hj⟩
theorem Rdr.drewN {B : Nat} {w : World} {g : Nat} {l : Bs} (h : Rdr B w g l) (n : Nat) : Rdr B (w.drewN n) g l := h
/-- A write below B leaves the reader as it is. -/
theorem Rdr.grown {B : Nat} {w w' : World} {g : Nat} {l : Bs} {row : Option Nat} (h : Rdr B w g l) (hg : w.grownBy w' row) (hr : ∀ k, row = some k → k < B) : Rdr B w' g l := by
  have hlt := h.lt
  obtain ⟨A, c, h1, h2, h3, h4, h5, h6, h7⟩ := h
  exact ⟨A, c, by rw [hg.block g hlt (fun e => by have := hr g e.symm; omega)]; exact h1, h2, h3, h4, h5, h6.grown hg (fun a e e' => by have := hr a.block e'.symm; have := (h7 a e).1; omega), h7⟩

def newPost (w : World) (l : Bs) : Ending → World → Prop := fun e w' => ∃ g, e = .returned (.pointer (some ⟨g, 0, none⟩)) ∧ Rdr w.heap.size w' g l ∧ Below w.heap.size w w'
set_option maxRecDepth 100000 in
set_option maxHeartbeats 400000 in
theorem new_any (A : Option Addr) (l : Bs) (c : Nat) (w : World) (hA : Rb w A l) (hl : l.length ≤ 1000000000) :
    Calls Try.prog 39 #[.slice A l.length c] w (newPost w l) := by
  go_enter Try.func39, Try.ntmps39
  go_wp2_with fail
  refine (clone_any A l c _ hA hl).mono ?_
  rintro e w1 ⟨v1, rfl, h1, b1⟩
  obtain ⟨C, d, sh⟩ := own_shape h1
  obtain rfl := sh.val
  have SH := Lib.hid sh
  have B1 := Lib.hid b1
  have hz := b1.size
  clear sh b1 h1
  go_wp2_with fail
  go_ret
  refine ⟨_, rfl, ⟨C, d, heap_alloc_new w1 _, hz, SH.out.le, SH.out.max, SH.out.non, SH.out.rd.below ((Below.refl _ _).alloc (Nat.le_refl _) _) (Nat.le_refl _), fun a e => ?_⟩, B1.out.alloc hz _⟩
  have := SH.out.base a e
  exact ⟨this.1, by omega⟩

/-- The fields of a reader, as the walks read them. -/
theorem rdr_cells {B : Nat} {w : World} {g : Nat} {l : Bs} (h : Rdr B w g l) : ∃ A c, w.cell? ⟨g, 0, none⟩ = some (.slice A l.length c) ∧ w.cell? ⟨g, 1, none⟩ = some (.bool true) ∧ w.frozen? ⟨g, 0, none⟩ = false ∧ l.length ≤ c ∧ Rb w A l ∧ (A = none → c = 0) ∧
    ∀ k (w' : World), k ≤ l.length → w.grownBy w' none → Rdr B (w'.setCell ⟨g, 0, none⟩ (.slice (cutA A k c) (l.length - k) (c - k))) g (l.drop k) := by
  have hlt := h.lt
  obtain ⟨A, c, h1, h2, h3, h4, h5, h6, h7⟩ := h
  refine ⟨A, c, by rw [cell_of_row w g 0 _ _ _ h1]; rfl, by rw [cell_of_row w g 1 _ _ _ h1]; rfl, frozen_of_row w g 0 _ _ h1, h3, h6, h5, fun k w' hk hg => ?_⟩
  have h1' : w'.heap[g]? = some (.cells #[.slice A l.length c, .bool true] 101 (0, 0)) := by rw [hg.block g hlt (by simp)]; exact h1
  have hst := heap_setCell_same w' g 0 _ _ (.slice (cutA A k c) (l.length - k) (c - k)) h1'
  refine ⟨cutA A k c, c - k, by rw [hst, List.length_drop]; rfl, h2, by rw [List.length_drop]; omega, by omega, ?_, ?_, ?_⟩
  · intro e
    unfold cutA at e
    split at e
    · omega
    · rw [Option.map_eq_none_iff] at e; rw [h5 e]; omega
  · have hr := (h6.grown hg (row := none) (fun a e => by simp)).cut k c h3
    refine hr.grown (row := some g) ⟨rfl, rfl, rfl, by simp, fun j _ hj => heap_setCell_other w' ⟨g, 0, none⟩ j _ (fun e => hj (by simp [e]))⟩ (fun a e => ?_)
    obtain ⟨a0, e0, eb⟩ := cutA_block e
    have := Nat.ne_of_lt (h7 a0 e0).2
    rw [← eb]; simpa using this
  · intro a e
    obtain ⟨a0, e0, eb⟩ := cutA_block e
    rw [← eb]; exact h7 a0 e0

/-- What a reader leaves that has taken k bytes: the answer, the bytes that are left; nothing else has changed. -/
def tookPost (B : Nat) (w : World) (g : Nat) (l : Bs) (k : Nat) (v : Value) : Ending → World → Prop := fun e w' => e = .returned v ∧ Rdr B w' g (l.drop k) ∧ w.grownBy w' (some g)
theorem grown_set {w w' : World} {g : Nat} (h : w.grownBy w' none) (u : Value) : w.grownBy (w'.setCell ⟨g, 0, none⟩ u) (some g) :=
  ⟨h.os, h.tape, h.output, by simpa using h.size, fun j hj hne => (heap_setCell_other w' ⟨g, 0, none⟩ j _ (fun e => hne (by simp [e]))).trans (h.block j hj (by simp))⟩
theorem grown_refl (w : World) (row : Option Nat) : w.grownBy w row := World.grownBy.refl w row
theorem cut_same (b o c : Nat) : cutA (some ⟨b, o, none⟩) c c = some ⟨b, o, none⟩ := by rw [cutA, if_pos rfl]
theorem cut_more (b o : Nat) {c s : Nat} (h : c ≠ s) : cutA (some ⟨b, o, none⟩) s c = some ⟨b, o + s, none⟩ := by rw [cutA, if_neg h, Option.map_some, add_plain]
def numR (l : Bs) : Value := .tuple #[.int .u64 (getN l : Int), .int .i64 (getE l : Int)]
theorem get_pos {l : Bs} (h : getE l = 0) : 0 < l.length := by
  have := (get_has l h).1
  have := enc_pos (getN l)
  have := (get_lt l).2.1
  omega

set_option maxRecDepth 100000 in
set_option maxHeartbeats 1000000 in
theorem takeN_any (B : Nat) (w : World) (g : Nat) (l : Bs) (hr : Rdr B w g l) (hl : l.length ≤ 1000000000) :
    Calls Try.prog 63 #[.pointer (some ⟨g, 0, none⟩), .func (.func 64) #[] #[]] w (tookPost B w g l (getS l) (numR l)) := by
  have HR := Lib.hid hr
  obtain ⟨A, c, hc0, hc1, hf, hle, hrb, hnon, hset⟩ := rdr_cells hr
  have HSET := Lib.hid hset
  have HG := Lib.hid (get_any A l c w hrb hl)
  obtain ⟨g1, g2, g3⟩ := get_lt l
  clear hr hset
  by_cases he : getE l = 0
  · have HGR : Hid (getR l = .tuple #[.int .u64 (getN l : Int), .int .i64 (getS l : Int), .int .i64 0]) := by show _ = _; unfold getR; rw [he]; rfl
    have HNR : Hid (numR l = .tuple #[.int .u64 (getN l : Int), .int .i64 0]) := by show _ = _; unfold numR; rw [he]; rfl
    obtain ⟨b, o, rfl, _, _⟩ := hrb (get_pos he)
    have HS := Lib.hid (HSET.out (getS l) w g2 (grown_refl w none))
    clear he hnon HSET
    unfold big at g1
    generalize getN l = n at *
    generalize getS l = s at *
    by_cases hcs : c = s
    · subst hcs
      have HS2 : Hid (Rdr B (w.setCell ⟨g, 0, none⟩ (.slice (some ⟨b, o, none⟩) 0 0)) g (l.drop c)) := by
        have := HS.out
        rw [cut_same, show l.length - c = 0 from by omega, show c - c = 0 from by omega] at this
        exact this
      go_enter Try.func63, Try.ntmps63
      go_wp2_with fail
      refine HG.out.mono ?_
      rintro e w' ⟨rfl, rfl⟩
      rw [HGR.out]
      go_wp2_with fail
      go_ret2
      exact ⟨by rw [HNR.out]; rfl, HS2.out, grown_set (grown_refl w none) _⟩
    · have HS2 : Hid (Rdr B (w.setCell ⟨g, 0, none⟩ (.slice (some ⟨b, o + s, none⟩) (l.length - s) (c - s))) g (l.drop s)) := by
        have := HS.out
        rw [cut_more _ _ hcs] at this
        exact this
      go_enter Try.func63, Try.ntmps63
      go_wp2_with fail
      refine HG.out.mono ?_
      rintro e w' ⟨rfl, rfl⟩
      rw [HGR.out]
      go_wp2_with fail
      go_ret2
      exact ⟨by rw [HNR.out]; rfl, HS2.out, grown_set (grown_refl w none) _⟩
  · obtain ⟨e1, e2, e3⟩ := get_no l he
    have HGR : Hid (getR l = .tuple #[.int .u64 0, .int .i64 0, .int .i64 (getE l : Int)]) := by show _ = _; unfold getR; rw [e2, e3]; rfl
    have HNR : Hid (numR l = .tuple #[.int .u64 0, .int .i64 (getE l : Int)]) := by show _ = _; unfold numR; rw [e2]; rfl
    have hne : ((getE l : Int) != 0) = true := by rw [bne_iff_ne]; omega
    have HE3 := Lib.hid e3
    clear he e1 e2 e3 g1 g2 g3 HSET
    generalize getE l = E at *
    go_enter Try.func63, Try.ntmps63
    go_wp2_with fail
    refine HG.out.mono ?_
    rintro e w' ⟨rfl, rfl⟩
    rw [HGR.out]
    go_wp2_with fail
    go_ret2
    exact ⟨by rw [HNR.out]; rfl, by rw [HE3.out]; exact HR.out, grown_refl w _⟩

set_option maxRecDepth 100000 in
set_option maxHeartbeats 400000 in
theorem number_any (B : Nat) (w : World) (g : Nat) (l : Bs) (hr : Rdr B w g l) (hl : l.length ≤ 1000000000) :
    Calls Try.prog 52 #[.pointer (some ⟨g, 0, none⟩)] w (tookPost B w g l (getS l) (numR l)) := by
  have HT := Lib.hid (takeN_any B w g l hr hl)
  have HR : Hid (∃ n e : Int, numR l = .tuple #[.int .u64 n, .int .i64 e]) := ⟨_, _, rfl⟩
  obtain ⟨n, e0, hR⟩ := HR.out
  rw [hR] at HT ⊢
  clear HR hR
  go_enter Try.func52, Try.ntmps52
  go_wp2_with fail
  refine HT.out.mono ?_
  rintro e w' ⟨rfl, h1, h2⟩
  have H1 := Lib.hid h1; have H2 := Lib.hid h2; clear h1 h2
  go_wp2_with fail
  go_ret2
  exact ⟨rfl, H1.out, H2.out⟩

end Go.Proofs.Ythlfahblnpijaaa.Vn
