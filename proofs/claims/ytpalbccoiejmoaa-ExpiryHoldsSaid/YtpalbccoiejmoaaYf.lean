/- Proves what the law's helpers first, gets, removes and dues return at a heap, beside the specification's list. Conditions: as each theorem names them. -/
import Derived.Test.YtpalbccoiejmoaaYe
namespace Go.Proofs.Ytpalbccoiejmoaa.Yf
open Go.RowKit Ap Mi Nw Ya Yb Yc Yd Ye

set_option maxRecDepth 100000 in
theorem first_gen {w : World} {p : Option Addr} (x : Td) (e0 : Int) (h : ∀ w', Below w.heap.size w w' → Calls Try.prog 33 #[.pointer p] w' (lkPost w' (.tuple #[tval x, .int .i64 e0]))) :
    Calls Try.prog 14 #[.pointer p, tval x, .int .i64 e0] w (boolTo true w) := by
  obtain ⟨n, a⟩ := x
  unfold tval at h ⊢
  simp only at h ⊢
  obtain ⟨v0, hv0⟩ : ∃ v0, v0 = w.alloc (.cells #[.int .i64 n, .int .u64 a] 41) := ⟨_, rfl⟩
  have b0 : Below w.heap.size w v0 := by rw [hv0]; exact bnew _ _
  have P4 : Hid (Blk v0 w.heap.size #[.int .i64 n, .int .u64 a] 41) := by show Blk _ _ _ _; rw [hv0]; exact Blk.new _ _ _
  have HF := Lib.hid (h v0 b0)
  have HB0 := Lib.hid b0
  unfold lkPost at HF
  unfold boolTo
  have hn : (n == n) = true := by simp
  have ha : (a == a) = true := by simp
  have he : (e0 == e0) = true := by simp
  clear h b0
  go_enter Try.func14, Try.ntmps14
  go_wp2_with fail
  rw [← hv0]
  clear hv0
  refine HF.out.mono ?_
  rintro e w1 ⟨rfl, hb⟩
  have HB1 := Lib.hid (HB0.out.trans (hb.mono HB0.out.size))
  obtain ⟨w2, hw2⟩ : ∃ w2, w2 = w1.alloc (.cells #[.int .i64 n, .int .u64 a] 41) := ⟨_, rfl⟩
  have b2 : Below w1.heap.size w1 w2 := by rw [hw2]; exact bnew _ _
  have P7 : Hid (Blk w2 w1.heap.size #[.int .i64 n, .int .u64 a] 41) := by show Blk _ _ _ _; rw [hw2]; exact Blk.new _ _ _
  have lz := P4.out.lt
  have P42 : Hid (Blk w2 w.heap.size #[.int .i64 n, .int .u64 a] 41) := (P4.out.below hb lz).below b2 (by have := hb.size; omega)
  have HB2 := Lib.hid (HB1.out.trans (b2.mono HB1.out.size))
  obtain ⟨x0, x1, _⟩ := P42.out.two
  obtain ⟨y0, y1, _⟩ := P7.out.two
  clear hb b2 HF
  go_upto_region 2 with fail
  rw [← hw2]
  clear hw2
  go_wp2_with fail
  go_ret
  exact ⟨rfl, HB2.out⟩
theorem first_is {F : Nat → Prop} {w : World} {g : Nat} {L : List Td} (h : Hp F w g L) :
    Calls Try.prog 14 #[.pointer (some ⟨g, 0, none⟩), tval (oldV L), .int .i64 (oldN L)] w (boolTo true w) :=
  first_gen (oldV L) (oldN L) (fun _ hb => first_any (h.below hb (Nat.le_refl _)))
set_option maxRecDepth 100000 in
theorem gets_gen {w : World} {p : Option Addr} (n y e0 : Int) (h : Calls Try.prog 39 #[.pointer p, .int .i64 n] w (lkPost w (.tuple #[.int .u64 y, .int .i64 e0]))) :
    Calls Try.prog 22 #[.pointer p, .int .i64 n, .int .u64 y, .int .i64 e0] w (boolTo true w) := by
  have HF := Lib.hid h
  unfold lkPost at HF
  unfold boolTo
  have hn : (y == y) = true := by simp
  have he : (e0 == e0) = true := by simp
  clear h
  go_enter Try.func22, Try.ntmps22
  go_wp2_with fail
  refine HF.out.mono ?_
  rintro e w1 ⟨rfl, hb⟩
  have HB1 := Lib.hid hb
  clear hb HF
  go_wp2_with fail
  go_ret
  exact ⟨rfl, HB1.out⟩
theorem gets_is {F : Nat → Prop} {w : World} {g : Nat} {L : List Td} (h : Hp F w g L) (n y e0 : Int) (hy : remA L n = y) (he : remN L n = e0) :
    Calls Try.prog 22 #[.pointer (some ⟨g, 0, none⟩), .int .i64 n, .int .u64 y, .int .i64 e0] w (boolTo true w) := gets_gen n y e0 (by rw [← hy, ← he]; exact get_any h n)
/-- What removes leaves. -/
def trPost (F : Nat → Prop) (w : World) (g : Nat) (L : List Td) : Ending → World → Prop := wrPost F w g L (.bool true)
set_option maxRecDepth 100000 in
theorem removes_is {F : Nat → Prop} {w : World} {g : Nat} {L : List Td} (h : Hp F w g L) (n y e0 : Int) (hy : remA L n = y) (he : remN L n = e0) :
    Calls Try.prog 15 #[.pointer (some ⟨g, 0, none⟩), .int .i64 n, .int .u64 y, .int .i64 e0] w (trPost F w g (remT L n)) := by
  have HF := Lib.hid (Ye.remove_any h n)
  rw [hy, he] at HF
  unfold wrPost at HF
  unfold trPost wrPost
  have hn : (y == y) = true := by simp
  have he' : (e0 == e0) = true := by simp
  clear h hy he
  go_enter Try.func15, Try.ntmps15
  go_wp2_with fail
  refine HF.out.mono ?_
  rintro e w1 ⟨rfl, hr, ho⟩
  have HR := Lib.hid hr; have HO := Lib.hid ho
  clear hr ho HF
  go_wp2_with fail
  go_ret
  exact ⟨rfl, HR.out, HO.out⟩
set_option maxRecDepth 100000 in
theorem removes_idle {w : World} {p : Option Addr} (h : Idle w p) (n : Int) :
    Calls Try.prog 15 #[.pointer p, .int .i64 n, .int .u64 0, .int .i64 1] w (boolTo true w) := by
  have HF := Lib.hid (remove_idle h n)
  unfold lkPost at HF
  unfold boolTo
  clear h
  go_enter Try.func15, Try.ntmps15
  go_wp2_with fail
  refine HF.out.mono ?_
  rintro e w1 ⟨rfl, hb⟩
  have HB1 := Lib.hid hb
  clear hb HF
  go_wp2_with fail
  go_ret
  exact ⟨rfl, HB1.out⟩
/-- What dues leaves: a heap on some blocks. -/
def duTrue (F : Nat → Prop) (w : World) (g : Nat) (L : List Td) : Ending → World → Prop := fun e w' => ∃ F', e = .returned (.bool true) ∧ Hp F' w' g L ∧ (∀ j, F' j → F j ∨ w.heap.size ≤ j) ∧ Only F w w'
set_option maxRecDepth 100000 in
theorem dues_is {F : Nat → Prop} {w : World} {g : Nat} {L : List Td} (h : Hp F w g L) (now : Int) {M : List Td} (hM : M = L.take (dueK L now)) {B : Option Addr} {d : Nat} (hB : Lt w B M d) (hnB : ∀ b, B = some b → ¬ F b.block) :
    Calls Try.prog 17 #[.pointer (some ⟨g, 0, none⟩), .int .u64 now, .slice B M.length d, .int .i64 0] w (duTrue F w g (L.drop (dueK L now))) := by
  have HF := Lib.hid (Ye.due_any h now)
  rw [← hM] at HF
  unfold duPost at HF
  unfold duTrue
  have hl : M.length ≤ 1048576 := by rw [hM]; exact (h.srt.take _).len
  have HB := Lib.hid hB
  have HN := Lib.hid hnB
  clear h hM hB hnB
  go_enter Try.func17, Try.ntmps17
  go_wp2_with fail
  refine HF.out.mono ?_
  rintro e w1 ⟨F', A, c, rfl, hp, hF', hA, hnA, ho⟩
  have HP := Lib.hid hp; have HF' := Lib.hid hF'; have HO := Lib.hid ho
  have HS := Lib.hid (same_true rfl hA (hB := HB.out.only ho HN.out) (by omega))
  unfold boolTo at HS
  clear hp hF' hA hnA ho HF
  go_wp2_with fail
  refine HS.out.mono ?_
  rintro e w2 ⟨rfl, hb⟩
  have HB2 := Lib.hid hb
  clear hb HS
  go_wp2_with fail
  go_ret
  exact ⟨F', rfl, HP.out.below HB2.out (Nat.le_refl _), HF'.out, HO.out.trans (Only.of_below HB2.out (Nat.le_refl _) _)⟩
set_option maxRecDepth 100000 in
theorem dues_idle {w : World} {p : Option Addr} (h : Idle w p) (now : Int) :
    Calls Try.prog 17 #[.pointer p, .int .u64 now, .slice none 0 0, .int .i64 1] w (boolTo true w) := by
  have HF := Lib.hid (due_idle h now)
  unfold boolTo
  clear h
  go_enter Try.func17, Try.ntmps17
  go_wp2_with fail
  refine HF.out.mono ?_
  rintro e w1 ⟨A, c, rfl, hA, hb⟩
  have HB1 := Lib.hid hb
  have HS := Lib.hid (same_true (l := []) rfl hA (Lt.nil w1) (by simp))
  unfold boolTo at HS
  clear hb HF hA
  go_wp2_with fail
  refine HS.out.mono ?_
  rintro e w2 ⟨rfl, hb⟩
  have HB2 := Lib.hid (bstep HB1.out hb)
  clear hb HS
  go_wp2_with fail
  go_ret
  exact ⟨rfl, HB2.out⟩
end Go.Proofs.Ytpalbccoiejmoaa.Yf
