/- Proves what the law's check of one call of Next returns at given answers: true. Conditions: few bytes. -/
import Derived.Test.YtmphielkohnpgaaDn
namespace Go.Proofs.Ytmphielkohnpgaa.Dh
open Go.RowKit Vm Ap Vw Va Gc Fm Fw Mi Mb Fr Dm Dd Dn

/-- What the check leaves. -/
def tookPost (F : Nat → Prop) (w : World) (g : Nat) (m : Int) (s : St) : Ending → World → Prop := fun e w' => e = .returned (.bool true) ∧ Dec F w' g m (nxS m s) ∧ Only F w w'
set_option maxRecDepth 100000 in
set_option maxHeartbeats 1000000 in
theorem next_true {F : Nat → Prop} {w : World} {g : Nat} {m : Int} {s : St} (hm : okM m) (h : Dec F w g m s) (hs : s.held.length ≤ 100000000) (C : Option Addr) (p : Bs) (n j : Nat) (cd : UInt8) (x no : Int) (er : Nat)
    (hn : p.length = n) (hC : Rb w C p) (hCF : ∀ a, C = some a → 0 < n → ¬ F a.block) (hG : nxG m s = (cd, p, er)) (hx : (cd.toNat : Int) = x) (hno : (er : Int) = no) :
    Calls Try.prog 26 #[.pointer (some ⟨g, 0, none⟩), .agg #[.int .u8 x, .slice C n j], .int .i64 no] w (tookPost F w g m s) := by
  subst hn; subst hx; subst hno
  obtain ⟨w0, hw0⟩ : ∃ w0, w0 = w.alloc (.cells #[.int .u8 (cd.toNat : Int), .slice C p.length j] 39) := ⟨_, rfl⟩
  have B0 : Below w.heap.size w w0 := by rw [hw0]; exact below_new _ _
  have ce0 : Cel w0 w.heap.size (.int .u8 (cd.toNat : Int)) (.slice C p.length j) := by rw [hw0]; exact Cel.new _ _ _ _
  have HN := Lib.hid (next_any hm (h.tight.below B0 (Nat.le_refl _)) hs)
  unfold nextPost at HN
  rw [hG] at HN
  simp only at HN
  have HB0 := Lib.hid B0; have CE := Lib.hid ce0
  have HC := Lib.hid (hC.below B0 (Nat.le_refl _))
  have HCF := Lib.hid hCF
  have HCW := Lib.hid hC
  clear h hG hC hCF B0 ce0
  go_enter Try.func26, Try.ntmps26
  go_wp2_with fail
  rw [← hw0]
  clear hw0
  refine HN.out.mono ?_
  rintro e w1 ⟨V, vc, rfl, hv, hd, ho⟩
  have HV := Lib.hid hv; have HD := Lib.hid hd; have HO := Lib.hid ho
  have RC : Rb w1 C p := by
    by_cases h0 : 0 < p.length
    · refine rb_only HC.out ho (fun a ha hf => HCF.out a ha h0 hf.1)
    · intro h1; exact absurd h1 h0
  have HRC := Lib.hid RC
  obtain ⟨cy0, cy1, cf0, cf1⟩ := cel_only CE.out ho (fun hf => by have := hf.2; omega)
  have hl1 : w.heap.size < w1.heap.size := Nat.lt_of_lt_of_le CE.out.lt ho.size
  have HQ : Hid (∀ W, Below w1.heap.size w1 W → Calls Try.prog 16 #[.agg #[.int .u8 (cd.toNat : Int), .slice V p.length vc], .agg #[.int .u8 (cd.toNat : Int), .slice C p.length j]] W (boolOf true W)) := fun W hW => by
    have := requal_any cd cd V C p p vc j W ((rb_mine HV.out).below hW (Nat.le_refl _)) (HRC.out.below hW (Nat.le_refl _))
    rw [eqv_self] at this; exact this
  clear hv hd ho RC
  go_wp2_with fail
  refine (HQ.out _ (below_new _ _)).mono ?_
  rintro e w2 ⟨rfl, hb⟩
  have HB2 := Lib.hid ((below_new w1 _).trans (hb.mono (below_new w1 _).size))
  clear hb
  go_wp2_with fail
  go_ret
  refine ⟨ret_b (by simp), (HD.out.below HB2.out (Nat.le_refl _)).mono (fun _ _ hf => hf.1), ?_⟩
  exact ((Only.of_below HB0.out (Nat.le_refl _) F).trans ((HO.out.mono fun j _ hf => Or.inl hf.1))).trans (Only.of_below HB2.out (Nat.le_refl _) _)
end Go.Proofs.Ytmphielkohnpgaa.Dh
