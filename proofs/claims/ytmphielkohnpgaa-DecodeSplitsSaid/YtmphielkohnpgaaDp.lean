/- Proves what nextOrPanic of a decoder does: it returns what Next returns, or panics where nothing comes; and the deferred function of All. Conditions: few bytes. -/
import Derived.Test.YtmphielkohnpgaaDn
import Derived.Recover
namespace Go.Proofs.Ytmphielkohnpgaa.Dp
open Go.RowKit Vm Ap Vw Va Gc Fm Fw Mi Mb Fr Dm Dd Dn

/-- What nextOrPanic leaves. -/
def orPost (F : Nat → Prop) (w : World) (g : Nat) (m : Int) (s : St) : Ending → World → Prop := fun e w' =>
  Dec F w' g m (nxS m s) ∧ Only F w w' ∧
  (((nxG m s).2.2 = 4 ∨ (nxG m s).2.2 = 14) ∧ (∃ u v, e = .panicked [{ v := .iface u v, recovered := false }]) ∨
   ((nxG m s).2.2 ≠ 4 ∧ (nxG m s).2.2 ≠ 14) ∧ ∃ V vc, e = .returned (.tuple #[.agg #[.int .u8 ((nxG m s).1.toNat : Int), .slice V (nxG m s).2.1.length vc], .int .i64 ((nxG m s).2.2 : Int)]) ∧ MineB w.heap.size w' V (nxG m s).2.1 vc)
set_option maxRecDepth 100000 in
set_option maxHeartbeats 1000000 in
theorem orPanic_any {F : Nat → Prop} {w : World} {g : Nat} {m : Int} {s : St} (hm : okM m) (h : Dec F w g m s) (hs : s.held.length ≤ 100000000) :
    Calls Try.prog 35 #[.pointer (some ⟨g, 0, none⟩)] w (orPost F w g m s) := by
  obtain ⟨w0, hw0⟩ : ∃ w0, w0 = w.alloc (.cells #[.int .u8 0, .slice none 0 0] 39) := ⟨_, rfl⟩
  have B0 : Below w.heap.size w w0 := by rw [hw0]; exact below_new _ _
  have ce0 : Cel w0 w.heap.size (.int .u8 0) (.slice none 0 0) := by rw [hw0]; exact Cel.new _ _ _ _
  have HN := Lib.hid (next_any hm (h.tight.below B0 (Nat.le_refl _)) hs)
  obtain ⟨⟨cd, p, er⟩, hG⟩ : ∃ x, nxG m s = x := ⟨_, rfl⟩
  unfold nextPost at HN
  rw [hG] at HN
  simp only at HN
  have HG := Lib.hid hG
  have HB0 := Lib.hid B0; have CE := Lib.hid ce0
  clear h hG B0 ce0
  by_cases h4 : er = 4 ∨ er = 14
  · go_enter Try.func35, Try.ntmps35
    go_wp2_with fail
    rw [← hw0]
    clear hw0
    refine HN.out.mono ?_
    rintro e w1 ⟨V, vc, rfl, hv, hd, ho⟩
    have HD := Lib.hid hd
    have HO := Lib.hid (((Only.of_below HB0.out (Nat.le_refl _) F).trans (ho.mono fun j _ hf => Or.inl hf.1)))
    have HB := Lib.hid (below_new w1 (.cells #[.int .u8 (cd.toNat : Int), .slice V p.length vc] 39))
    clear hv hd ho
    rcases h4 with rfl | rfl
    all_goals
      go_wp2_with fail
      refine ⟨rfl, ?_⟩
      exact ⟨(HD.out.below HB.out (Nat.le_refl _)).mono (fun _ _ hf => hf.1), HO.out.trans (Only.of_below HB.out (Nat.le_refl _) _), Or.inl ⟨by rw [HG.out]; simp, _, _, rfl⟩⟩
  · have e4 : ((er : Int) == 4) = false := by rw [beq_eq_false_iff_ne]; omega
    have e14 : ((er : Int) == 14) = false := by rw [beq_eq_false_iff_ne]; omega
    have HNE : Hid ((nxG m s).2.2 ≠ 4 ∧ (nxG m s).2.2 ≠ 14) := by show _ ∧ _; rw [HG.out]; simp only; omega
    clear h4
    go_enter Try.func35, Try.ntmps35
    go_wp2_with fail
    rw [← hw0]
    clear hw0
    refine HN.out.mono ?_
    rintro e w1 ⟨V, vc, rfl, hv, hd, ho⟩
    have HV := Lib.hid hv
    have HD := Lib.hid hd
    have HO := Lib.hid (((Only.of_below HB0.out (Nat.le_refl _) F).trans (ho.mono fun j _ hf => Or.inl hf.1)))
    obtain ⟨cx0, cx1, cf0, cf1⟩ := cel_only CE.out ho (fun hf => by have := hf.2; omega)
    have hl1 : w.heap.size < w1.heap.size := Nat.lt_of_lt_of_le CE.out.lt ho.size
    have n1 : ¬ w.heap.size = w1.heap.size := by omega
    have HLW := Lib.hid CE.out.lt
    have HB : Hid (∀ o, Below w1.heap.size w1 (w1.alloc o)) := fun o => below_new w1 o
    clear hv hd ho
    go_wp2_with fail
    refine bodyPost_ret (v := .tuple #[.agg #[.int .u8 (cd.toNat : Int), .slice V p.length vc], .int .i64 (er : Int)]) (by simp [results, Try.results35, go_sem, cx0, cx1, hl1]) rfl ⟨?_, ?_, Or.inr ⟨HNE.out, V, vc, by rw [HG.out], ?_⟩⟩
    · exact (dec_out HD.out _ _).below (below_new _ _) (Nat.le_refl _)
    · exact (((HO.out.setCell (ad := ⟨w.heap.size, 0, none⟩) (Or.inr (Nat.le_refl _)) _).setCell (ad := ⟨w.heap.size, 1, none⟩) (Or.inr (Nat.le_refl _)) _)).alloc _
    · rw [HG.out]
      exact ((mine_two HV.out HLW.out _ _).below (below_new _ _) (Nat.le_refl _)).mono HB0.out.size
/-- The deferred function of All, where the frame panics: it goes on as if nothing had been. -/
theorem catch_panicking (u : TypeId) (pv : Value) (older : List PanicEntry) (w : World) :
    CallsD Try.prog 34 #[] (.panicking ({ v := .iface u pv, recovered := false } :: older)) w fun e u' w' =>
      e = .returned (.tuple #[]) ∧ u' = .panicking ({ v := .iface u pv, recovered := true } :: older) ∧ w' = w := by
  refine callsD_of_wpS Try.func34 rfl fun c₀ cs hu => ?_
  apply wpS_region
  simp [wpOpsS, go_sem, recoverD, hu, Try.ntmps34, bodyPostS, results, Try.results34]
end Go.Proofs.Ytmphielkohnpgaa.Dp
