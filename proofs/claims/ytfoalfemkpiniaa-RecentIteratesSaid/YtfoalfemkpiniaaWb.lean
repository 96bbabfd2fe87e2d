/- Proves what push and bridge leave of an order in memory as two maps. Conditions: as each theorem names them. -/
import Derived.Test.YtfoalfemkpiniaaWa
import Derived.StillTailTactics
namespace Go.Proofs.Ytfoalfemkpiniaa.Wb
open Go.RowKit Go.Maps Ap Mi Nw Ua Uh Uk Wm Wa

set_option maxRecDepth 100000 in
set_option maxHeartbeats 400000 in
theorem push_any {w : World} {g B A : Nat} {DB DA : DataW Unit} (h : Lo w g B A DB DA) (n p : Int) (hn : In n) (hp : In p) (hl : DB.atKey (kl (-1)) (.lit (.int .i64 0)) = .lit (.int .i64 p)) (hsb : Maps.size DB ≤ 1999990) (hsa : Maps.size DA ≤ 1999990) :
    Calls Try.prog 36 #[.pointer (some ⟨g, 0, none⟩), .int .i64 n] w (joinPost w g B A ((DB.put (kl n) (.lit (.int .i64 p))).put (kl (-1)) (.lit (.int .i64 n))) ((DA.put (kl p) (.lit (.int .i64 n))).put (kl n) (.lit (.int .i64 (-1))))) := by
  have HLK := look_run h.ob in_m1 hl
  obtain ⟨x0, x1, _⟩ := h.bk.two
  have J1 := Lib.hid (join_any h p n hp hn (by omega) (by omega))
  have HZ := Lib.hid (size_le h.ob n (.lit (.int .i64 p))); have HZ' := Lib.hid (size_le h.oa p (.lit (.int .i64 n)))
  have HN := Lib.hid hn; have HS := Lib.hid (And.intro hsb hsa)
  unfold joinPost at J1 ⊢
  clear h hn hp hl hsb hsa
  go_enter Try.func36, Try.ntmps36
  go_wp2_with fail
  refine J1.out.mono ?_
  rintro e w1 ⟨rfl, hlo, ho⟩
  have HO1 := Lib.hid ho
  have J2 := Lib.hid (join_any hlo n (-1) HN.out in_m1 (by have := HZ.out; have := HS.out.1; omega) (by have := HZ'.out; have := HS.out.2; omega))
  unfold joinPost at J2
  clear hlo ho HLK x0 x1 J1
  go_wp2_with fail
  refine J2.out.mono ?_
  rintro e w2 ⟨rfl, hlo, ho⟩
  have HL2 := Lib.hid hlo; have HO2 := Lib.hid (HO1.out.trans (ho.mono fun _ _ h => Or.inl h))
  clear hlo ho J2
  go_wp2_with fail
  go_end0
  exact ⟨rfl, HL2.out, HO2.out⟩
set_option maxRecDepth 100000 in
set_option maxHeartbeats 400000 in
theorem bridge_any {w : World} {g B A : Nat} {DB DA : DataW Unit} (h : Lo w g B A DB DA) (n p s : Int) (hn : In n) (hp : In p) (hs : In s) (hl : DB.atKey (kl n) (.lit (.int .i64 0)) = .lit (.int .i64 p)) (hl' : DA.atKey (kl n) (.lit (.int .i64 0)) = .lit (.int .i64 s)) (hsb : Maps.size DB ≤ 1999990) (hsa : Maps.size DA ≤ 1999990) :
    Calls Try.prog 35 #[.pointer (some ⟨g, 0, none⟩), .int .i64 n] w (joinPost w g B A (DB.put (kl s) (.lit (.int .i64 p))) (DA.put (kl p) (.lit (.int .i64 s)))) := by
  have LK1 : (Instr.lookup 43 (.map (some B)) (.int .i64 n) false).run Try.prog w.drew = .ok (.int .i64 p) w.drew := look_run (h.ob.kept (Only.refl (fun _ => False) w).drew (fun h => h)) hn hl
  have LK2 : (Instr.lookup 43 (.map (some A)) (.int .i64 n) false).run Try.prog w.drew = .ok (.int .i64 s) w.drew := look_run (h.oa.kept (Only.refl (fun _ => False) w).drew (fun h => h)) hn hl'
  obtain ⟨x0, x1, _⟩ := h.bk.two
  have J1 : Hid (Calls Try.prog 25 #[.pointer (some ⟨g, 0, none⟩), .int .i64 p, .int .i64 s] w.drew (joinPost w g B A (DB.put (kl s) (.lit (.int .i64 p))) (DA.put (kl p) (.lit (.int .i64 s))))) := by
    have ho : Only (fun _ => False) w w.drew := (Only.refl (fun _ => False) w).drew
    refine (join_any (h.kept ho (fun h => h) (fun h => h) (fun h => h)) p s hp hs (by omega) (by omega)).mono ?_
    rintro e w' ⟨h1, h2, h3⟩
    exact ⟨h1, h2, (ho.mono fun _ _ hf => hf.elim).trans (h3.mono fun _ _ h => Or.inl h)⟩
  unfold joinPost at J1 ⊢
  clear h hn hp hs hl hl' hsb hsa
  go_enter Try.func35, Try.ntmps35
  go_still_tail 13, (by kernel_rfl)
  change wpList _ _ _ _ _ w.drew
  go_wp2_with fail
  refine J1.out.mono ?_
  rintro e w2 ⟨rfl, hlo, ho⟩
  have HL2 := Lib.hid hlo; have HO2 := Lib.hid ho
  clear hlo ho J1 LK1 LK2 x0 x1
  go_wp2_with fail
  go_end0
  exact ⟨rfl, HL2.out, HO2.out⟩
end Go.Proofs.Ytfoalfemkpiniaa.Wb
