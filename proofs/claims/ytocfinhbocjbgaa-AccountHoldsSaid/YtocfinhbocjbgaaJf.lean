/- Proves what the law's helpers used, over, budget and costs return at given answers, and the chapter's examples. Conditions: as each theorem names them. -/
import Derived.Test.YtocfinhbocjbgaaJe
import Derived.Laws.MakeOwn
namespace Go.Proofs.Ytocfinhbocjbgaa.Jf
open Go.RowKit Ap Mi Nw Ja Jb Jc Je

set_option maxRecDepth 100000 in
theorem used_gen {w : World} {p : Option Addr} (x n : Int) (h : Calls Try.prog 26 #[.pointer p] w (vPost w (.tuple #[.int .i64 x, .int .i64 n]))) :
    Calls Try.prog 23 #[.pointer p, .int .i64 x, .int .i64 n] w (boolTo true w) := by
  have HF := Lib.hid h
  have hx : (x == x) = true := by simp
  have hn : (n == n) = true := by simp
  unfold vPost at HF
  unfold boolTo
  clear h
  go_enter Try.func23, Try.ntmps23
  go_wp2_with fail
  refine HF.out.mono ?_
  rintro e w1 ⟨rfl, hb⟩
  have HB := Lib.hid hb
  clear hb HF
  go_wp2_with fail
  go_ret
  exact ⟨rfl, HB.out⟩
set_option maxRecDepth 100000 in
theorem over_gen {w : World} {p : Option Addr} (x n : Int) (h : Calls Try.prog 35 #[.pointer p] w (vPost w (.tuple #[.int .i64 x, .int .i64 n]))) :
    Calls Try.prog 24 #[.pointer p, .int .i64 x, .int .i64 n] w (boolTo true w) := by
  have HF := Lib.hid h
  have hx : (x == x) = true := by simp
  have hn : (n == n) = true := by simp
  unfold vPost at HF
  unfold boolTo
  clear h
  go_enter Try.func24, Try.ntmps24
  go_wp2_with fail
  refine HF.out.mono ?_
  rintro e w1 ⟨rfl, hb⟩
  have HB := Lib.hid hb
  clear hb HF
  go_wp2_with fail
  go_ret
  exact ⟨rfl, HB.out⟩
set_option maxRecDepth 100000 in
theorem budget_gen {w : World} {p : Option Addr} (x n : Int) (h : Calls Try.prog 36 #[.pointer p] w (vPost w (.tuple #[.int .i64 x, .int .i64 n]))) :
    Calls Try.prog 25 #[.pointer p, .int .i64 x, .int .i64 n] w (boolTo true w) := by
  have HF := Lib.hid h
  have hx : (x == x) = true := by simp
  have hn : (n == n) = true := by simp
  unfold vPost at HF
  unfold boolTo
  clear h
  go_enter Try.func25, Try.ntmps25
  go_wp2_with fail
  refine HF.out.mono ?_
  rintro e w1 ⟨rfl, hb⟩
  have HB := Lib.hid hb
  clear hb HF
  go_wp2_with fail
  go_ret
  exact ⟨rfl, HB.out⟩
section
variable {F : Nat → Prop} {w : World} {g : Nat} {s : Ac}
theorem used_is (h : Ah F w g s) {x n : Int} (hx : s.x = x) (hn : s.n = n) : Calls Try.prog 23 #[.pointer (some ⟨g, 0, none⟩), .int .i64 x, .int .i64 n] w (boolTo true w) := by
  subst hx; subst hn; exact used_gen _ _ (used_any h)
theorem over_is (h : Ah F w g s) {x n : Int} (hx : ovB s = x) (hn : ovE s = n) : Calls Try.prog 24 #[.pointer (some ⟨g, 0, none⟩), .int .i64 x, .int .i64 n] w (boolTo true w) := by
  subst hx; subst hn; exact over_gen _ _ (over_any h)
theorem budget_is (h : Ah F w g s) {x n : Int} (hx : s.b = x) (hn : s.e = n) : Calls Try.prog 25 #[.pointer (some ⟨g, 0, none⟩), .int .i64 x, .int .i64 n] w (boolTo true w) := by
  subst hx; subst hn; exact budget_gen _ _ (budget_any h)
end
/-- 'make([]byte, n)'. -/
theorem make_any (n : Nat) (w : World) (h : n ≤ 100000) : ∃ w1, (Instr.makeSlice 26 (.int .i64 (n : Int)) (.int .i64 (n : Int))).run Try.prog w = .ok (.slice (some ⟨w.heap.size, 0, none⟩) n n) w1 ∧ Below w.heap.size w w1 := by
  have hi : (Try.prog.info? 5).map (fun i => (i.zero, i.size, i.bytes)) = some (some (.int .u8 0), 1, 1) := by kernel_rfl
  rw [Option.map_eq_some_iff] at hi
  obtain ⟨i, hi1, hi2⟩ := hi
  simp only [Prod.mk.injEq] at hi2
  obtain ⟨hz, hs, hb⟩ := hi2
  have hr := run_make (P := Try.prog) w 26 5 i (.int .u8 0) Try.underlying26 hi1 hz .i64 .i64 (n : Int) (n : Int) (by omega) (Int.le_refl _) (by rw [hb]; omega) (by omega)
  rw [Int.toNat_natCast] at hr
  exact ⟨_, hr, bnew _ _⟩
set_option maxRecDepth 100000 in
theorem costs_is {w : World} {A : Option Addr} {l : List ByteArray} {c : Nat} (k : ByteArray) (n : Nat) {x y : Int} (hl : Sl w A l c) (hn : n ≤ 100000) (hz : l.length ≤ 1000) (hzt : ∀ t ∈ l, t.size ≤ 1000000) (hx : costV k n l = x) (hy : costN k n l = y) :
    Calls Try.prog 10 #[.string k, .int .i64 (n : Int), .slice A l.length c, .int .i64 x, .int .i64 y] w (boolTo true w) := by
  obtain ⟨w1, hmk, b1⟩ := make_any n w hn
  have HC := Lib.hid (pcost_any k n c n (some ⟨w.heap.size, 0, none⟩) A l w1 (hl.below b1 (Nat.le_refl _)) hn hz hzt)
  rw [hx, hy] at HC
  have HB1 := Lib.hid b1
  have hx : (x == x) = true := by simp
  have hy : (y == y) = true := by simp
  have hnI : (n : Int) ≤ 100000 := by omega
  unfold vPost at HC
  unfold boolTo
  clear hl b1 hzt
  go_enter Try.func10, Try.ntmps10
  go_wp2_with fail
  refine HC.out.mono ?_
  rintro e w2 ⟨rfl, hb⟩
  have HB := Lib.hid (HB1.out.trans (hb.mono HB1.out.size))
  clear hb HC
  go_wp2_with fail
  go_ret
  exact ⟨rfl, HB.out⟩
end Go.Proofs.Ytocfinhbocjbgaa.Jf
