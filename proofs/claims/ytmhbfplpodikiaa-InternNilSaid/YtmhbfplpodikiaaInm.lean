/- Proves what the method Release of a table returns and leaves. Conditions: as each theorem names them. -/
import Derived.Test.YtmhbfplpodikiaaInl
namespace Go.Proofs.Ytmhbfplpodikiaa.Inm
open Go.RowKit Ap Mi Nw Rg Aa Ai Hm Ina Inb Inc Ind Ine Inf Ing Inh Ini Inj Ink Inl Ag

section
variable {F F' : Nat → Prop} {p : Nat → Nat} {w w' : World} {g : Nat} {m sd : Int} {H S R : Option Addr} {ch cs cf : Nat} {hd nx : List Int} {l : List Nr} {fr : List Nat}
/-- What Release leaves. -/
def relPost (F : Nat → Prop) (w : World) (g : Nat) (m : Int) (l : List Nr) (n : Int) : Ending → World → Prop := fun q w' => q = .returned (.tuple #[.bool (relB l n), .int .i64 (relE l n)]) ∧ Gave F w w' g m (relL l n)
theorem nk_rf {l : List Nr} {i : Nat} (hi : i < l.length) (r : Int) (j : Nat) : nk (l.set i { l[i] with r := r }) j = nk l j := by
  unfold nk
  rw [getD_set_n hi]
  by_cases q : j = i
  · subst q; rw [if_pos rfl, getD_at hi]
  · rw [if_neg q]
set_option maxRecDepth 100000 in
set_option maxHeartbeats 2000000 in
theorem rel_st (h : St F w g m l) (n : Int) :
    Calls Try.prog 19 #[.pointer (some ⟨g, 0, none⟩), .int .i64 n] w (relPost F w g m l n) := by
  have hlen := h.len
  have lg := h.lt
  have HS := Lib.hid h
  obtain ⟨p, sd, H, ch, hd, S, cs, nx, R, cf, h1, ht, hsd, hm1, hm2, hc⟩ := h
  have HRF := Lib.hid (refs_any h1 (by omega) ht.rf hm1 n)
  unfold relPost
  rcases rel_cases l n with ⟨hno, e1, e2, e3⟩ | ⟨i, hi, rfl, hr, e1, hcase⟩
  · have f1 : nameE l n = 9 := by unfold nameE; rw [if_neg hno]
    rw [f1] at HRF
    rw [e1, e2, e3]
    obtain ⟨r, hre⟩ : ∃ r, r = refsV l n := ⟨_, rfl⟩
    rw [← hre] at HRF
    clear h1 ht hsd hno e1 e2 e3 f1 hre
    go_enter Try.func19, Try.ntmps19
    go_wp2_with fail
    refine HRF.out.mono ?_
    rintro e w1 ⟨rfl, hw⟩
    subst hw
    go_wp2_with fail
    go_ret2
    exact ⟨rfl, gave_same HS.out (Only.refl _ _)⟩
  · have hh : has l (i : Int) := (has_nat hi).2 hr
    have f1 : nameE l (i : Int) = 0 := by unfold nameE; rw [if_pos hh]
    have f2 : refsV l (i : Int) = l[i].r := by unfold refsV; rw [if_pos hh, Int.toNat_natCast, getD_at hi]
    have hrm := (ht.rf _ (List.getElem_mem hi)).2
    obtain ⟨sb, so, rfl, hsl, hsF, hsp, _, d1, _, _, ff1, _⟩ := h1.slot hi
    obtain ⟨_, _, _, c3, _⟩ := Blk.five h1.blk
    have HL := Lib.hid h1; have HT := Lib.hid ht; have HSD := Lib.hid hsd
    obtain ⟨r, hre⟩ : ∃ r, r = l[i].r := ⟨_, rfl⟩
    have HRE := Lib.hid hre
    rw [getD_at hi, ← hre] at d1
    rw [← hre] at hr hrm f2 hcase
    rw [f1, f2] at HRF
    rw [e1]
    have i1 : (i : Int) < (l.length : Int) := by omega
    have HO1 : Hid (Only F w (w.setCell ⟨sb, so + i * 3 + 1, none⟩ (.int .i64 (r - 1)))) := (Only.refl F w).put (ad := ⟨sb, so + i * 3 + 1, none⟩) hsF _
    have HL1 := Lib.hid (h1.refs hi (r - 1))
    rcases hcase with ⟨hle, e2, e3⟩ | ⟨hgt, e2, e3⟩
    · rw [e2, e3]
      have i2 : ¬ (1 : Int) < r := by omega
      have hlv : lv l i := (lv_at hi).2 (by rw [← hre]; exact hr)
      have HFG := Lib.hid (forget_any (n := i) (l := l) HL1.out (by rw [List.length_set]) (nk_rf hi _) (fun n' e => by subst e; rw [List.set_set]) ht hsd hm1 hm2 hc hlv)
      clear h1 ht hsd e1 e2 e3 f1 f2 hh hre hlv
      go_enter Try.func19, Try.ntmps19
      go_wp2_with fail
      refine HRF.out.mono ?_
      rintro e w1 ⟨rfl, hw⟩
      subst hw
      go_wp2_with fail
      refine HFG.out.mono ?_
      rintro e w2 ⟨rfl, F2, hs2, hF2, ho2⟩
      have HS2 := Lib.hid hs2; have HF2 := Lib.hid hF2; have HO2 := Lib.hid ho2
      clear hs2 hF2 ho2 HFG
      go_wp2_with fail
      go_ret2
      refine ⟨rfl, F2, HS2.out, fun j hj => ?_, HO1.out.trans (HO2.out.mono fun _ _ hf => Or.inl hf)⟩
      rcases HF2.out j hj with q | q
      · exact Or.inl q
      · exact Or.inr (by simpa using q)
    · rw [e2, e3]
      have i2 : (1 : Int) < r := by omega
      clear h1 ht hsd e1 e2 e3 f1 f2 hh hre
      go_enter Try.func19, Try.ntmps19
      go_wp2_with fail
      refine HRF.out.mono ?_
      rintro e w1 ⟨rfl, hw⟩
      subst hw
      go_wp2_with fail
      go_ret2
      rw [modify_set hi, ← HRE.out]
      refine ⟨rfl, gave_same ⟨p, sd, H, ch, hd, some ⟨sb, so, none⟩, cs, nx, R, cf, ?_, HT.out.count hi (by rw [← HRE.out]; exact hr) (by omega) (by omega), HSD.out, hm1, hm2, ?_⟩ HO1.out⟩
      · rw [frees_count hi (by rw [← HRE.out]; exact hr) (by omega)]
        exact HL1.out
      · rw [cnt_count hi (by rw [← HRE.out]; exact hr) (by omega)]; exact hc
end
end Go.Proofs.Ytmhbfplpodikiaa.Inm
