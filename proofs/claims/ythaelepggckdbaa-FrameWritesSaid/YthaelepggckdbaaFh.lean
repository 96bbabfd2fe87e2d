/- Proves what the law's small checks return at given answers: true. Conditions: few bytes. -/
import Derived.Test.YthaelepggckdbaaFrr
namespace Go.Proofs.Ythaelepggckdbaa.Fh
open Go.RowKit Vm Ap Vw Va Vr Gc Fm Fc Fw Fr Frr

set_option maxRecDepth 100000 in
set_option maxHeartbeats 1000000 in
theorem reads_true (A C : Option Addr) (l p : Bs) (k c n j : Nat) (cd : UInt8) (most x s e : Int) (ns ne : Nat) (w : World) (hk : l.length = k) (hn : p.length = n) (hA : Rb w A l) (hl : l.length ≤ 1000000000) (hlc : k ≤ c) (hm1 : -9223372036854775808 ≤ most) (hm2 : most ≤ 9223372036854775807)
    (hC : Rb w C p) (h : readV l most = (cd, p, ns, ne)) (hx : (cd.toNat : Int) = x) (hs : (ns : Int) = s) (he : (ne : Int) = e) :
    Calls Try.prog 15 #[.slice A k c, .int .i64 most, .agg #[.int .u8 x, .slice C n j], .int .i64 s, .int .i64 e] w (boolOf true w) := by
  subst hk; subst hn; subst hx; subst hs; subst he
  obtain ⟨w0, hw0⟩ : ∃ w0, w0 = w.alloc (.cells #[.int .u8 (cd.toNat : Int), .slice C p.length j] 24) := ⟨_, rfl⟩
  have B0 : Below w.heap.size w w0 := by rw [hw0]; exact alloc_below _ _
  have hce : Cel w0 w.heap.size (.int .u8 (cd.toNat : Int)) (.slice C p.length j) := by rw [hw0]; exact Cel.new _ _ _ _
  have HG : Hid (Calls Try.prog 16 #[.slice A l.length c, .int .i64 most] w0 (readPost w0 (cd, p, ns, ne))) := by
    have := fread_any A l c most w0 (hA.below B0 (Nat.le_refl _)) hl hlc hm1 hm2
    rw [h] at this; exact this
  have HC := Lib.hid (hC.below B0 (Nat.le_refl _))
  have HB0 := Lib.hid B0
  have CE := Lib.hid hce
  unfold readPost at HG
  simp only at HG
  clear h hA hC B0 hce
  go_enter Try.func15, Try.ntmps15
  go_wp2_with fail
  rw [← hw0]
  clear hw0
  refine HG.out.mono ?_
  rintro r w1 ⟨V, vc, rfl, hf, hb⟩
  have HB1 := Lib.hid (HB0.out.trans (hb.mono HB0.out.size))
  have HQ : Hid (∀ W, Below w1.heap.size w1 W → Calls Try.prog 13 #[.agg #[.int .u8 (cd.toNat : Int), .slice V p.length vc], .agg #[.int .u8 (cd.toNat : Int), .slice C p.length j]] W (boolOf true W)) := fun W hW => by
    have := requal_any cd cd V C p p vc j W (hf.rd.below hW (Nat.le_refl _)) (HC.out.below (hb.trans (hW.mono hb.size)) (Nat.le_refl _))
    rw [eqv_self] at this; exact this
  have CE1 := Lib.hid (CE.out.below hb (Nat.le_refl _))
  obtain ⟨cx0, cx1, cf0, cf1⟩ := CE1.out
  have hl1 := CE1.out.lt
  clear hf hb
  go_wp2_with fail
  refine (HQ.out _ (alloc_below _ _)).mono ?_
  rintro r w2 ⟨rfl, hb⟩
  have HB2 := Lib.hid (step1 HB1.out hb)
  clear hb
  go_wp2_with fail
  go_ret
  exact ⟨ret_b (by simp), HB2.out⟩

set_option maxRecDepth 100000 in
set_option maxHeartbeats 400000 in
theorem sizes_true (n : Nat) (x s e : Int) (w : World) (hx : (n : Int) = x) (h : n ≤ 1000000000) (hS : ∀ W A k, Calls Try.prog 11 #[.agg #[.int .u8 1, .slice A n k]] W (twoPost W s e)) :
    Calls Try.prog 17 #[.int .i64 x, .int .i64 s, .int .i64 e] w (boolOf true w) := by
  subst hx
  obtain ⟨w1, hmk, _, hb⟩ := make_zeros n w h
  have HS := Lib.hid hS
  have HB := Lib.hid hb
  clear hS hb
  go_enter Try.func17, Try.ntmps17
  go_wp2_with fail
  refine (HS.out _ _ _).mono ?_
  rintro r w2 ⟨rfl, hb⟩
  have HB2 := Lib.hid (step0 HB.out hb)
  clear hb
  go_wp2_with fail
  go_ret
  exact ⟨ret_b (by simp), HB2.out⟩
end Go.Proofs.Ythaelepggckdbaa.Fh
