/- Proves what the methods Put and Del of a table return and leave. Conditions: as each theorem names them. -/
import Derived.Test.YthabnffmlgppdaaPe
import Derived.BigQuiet
import Derived.Deep.QuietTactic
namespace Go.Proofs.Ythabnffmlgppdaa.Pf
open Go.RowKit Ap Mi Nw Rg Hm Tm Tn Ta Pm Pa Pb Pc Pd Pe
open Tf (okK okK_spec Gets Puts)
open Th (Dels)
open To (putT putN roomT delT delN put_good del_good room_tab)

theorem Pw.double {n : Nat} (h : Pw n) (hn : n ≤ 1000000) : Pw (2 * n) := by
  obtain ⟨e, he, rfl⟩ := h
  refine ⟨e + 1, ?_, by rw [Nat.pow_succ]; omega⟩
  rcases Nat.lt_or_ge e 24 with h | h
  · omega
  · have : e = 24 := by omega
    subst this
    have h2 : (2 : Nat) ^ 24 = 16777216 := by decide
    omega
theorem Pw.half {n : Nat} (h : Pw n) (hn : 8 < n) : Pw (n / 2) := by
  obtain ⟨e, he, rfl⟩ := h
  obtain ⟨d, rfl⟩ : ∃ d, e = d + 1 := ⟨e - 1, by
    rcases Nat.eq_zero_or_pos e with h | h
    · subst h; simp at hn
    · omega⟩
  exact ⟨d, by omega, by rw [Nat.pow_succ]; omega⟩
section
variable {F F' : Nat → Prop} {w w' : World} {g : Nat} {seed m : Int} {c : List (Cell Key)}
/-- The counter is written. -/
theorem Pl.keys (h : Pl F w g seed m c) (m' : Int) : Pl F (w.setCell ⟨g, 2, none⟩ (.int .i64 m')) g seed m' c ∧ Only F w (w.setCell ⟨g, 2, none⟩ (.int .i64 m')) := by
  have hF := h.inF
  obtain ⟨⟨A, cap, h1, h2, h3, h4⟩, h5, h6, h7, h8⟩ := h
  exact ⟨⟨⟨A, cap, h1.set 2 _, h2, h3.only (only_own (F := fun j => j = g) rfl _) (fun a ha e => (h4 a ha).2 e), h4⟩, h5, h6, h7, h8⟩, only_own hF _⟩
/-- What Put and Del leave. -/
def putPost (F : Nat → Prop) (w : World) (g : Nat) (seed : Int) (c' : List (Cell Key)) (r : Value) : Ending → World → Prop := fun q w' =>
  q = .returned r ∧ Pt (More F w) w' g seed c' ∧ Only F w w'
set_option maxRecDepth 100000 in
set_option maxHeartbeats 2000000 in
theorem put_any (h : Pt F w g seed c) (k : Key) (hk : k.length ≤ 1000000) (hn : c.length ≤ 400000) {n e : Int} {c' : List (Cell Key)} (hx : n ≤ 9223372036854775807) (hP : Puts seed c k n c' e) :
    Calls Try.prog 15 #[.pointer (some ⟨g, 0, none⟩), .string ⟨k.toArray⟩, .int .i64 n] w (putPost F w g seed c' (.int .i64 e)) := by
  unfold putPost
  rcases hP with ⟨hv, rfl, rfl⟩ | ⟨hv, hn0, ⟨i, x, hi⟩, rfl, rfl⟩ | ⟨hv, ⟨x, rfl, rfl⟩, hno, rfl⟩
  · have HL := Lib.hid (look_bad h.pl k hk n hv)
    have HH := Lib.hid h
    clear h hv
    go_enter Try.func15, Try.ntmps15
    go_wp2_with fail
    refine HL.out.mono ?_
    rintro e w1 ⟨rfl, rfl⟩
    go_wp2_with fail
    go_ret
    exact ⟨rfl, HH.out.mono (fun _ _ hf => Or.inl hf), Only.refl _ _⟩
  · have HL := Lib.hid (look_good h.pl k n hv hn0 (find_there h.pl h.good.tab k (okK_spec hv).1 hk hi))
    have HH := Lib.hid h
    clear h hv hi
    go_enter Try.func15, Try.ntmps15
    go_wp2_with fail
    refine HL.out.mono ?_
    rintro e w1 ⟨rfl, hb⟩
    have HB := Lib.hid hb
    clear hb
    go_wp2_with fail
    go_ret
    exact ⟨rfl, (HH.out.below HB.out (Nat.le_refl _)).mono (fun _ _ hf => Or.inl hf), Only.of_below HB.out (Nat.le_refl _) _⟩
  · have HL := Lib.hid (look_good h.pl k (x : Int) hv (by omega) (find_gone h.pl h.good.free k (okK_spec hv).1 hk hno))
    obtain ⟨z, hz⟩ : ∃ z, z = gap c (hom seed c.length k) := ⟨_, rfl⟩
    rw [← hz] at HL
    have HH := Lib.hid h
    have HK := Lib.hid (okK_spec hv)
    have HPG := Lib.hid (put_good h.good hno x)
    have HRT := Lib.hid (room_tab h.good)
    have HNO := Lib.hid hno
    have hcl := cnt_le c
    have hq : ((cnt c : Int) == 1048576) = false := by simp; omega
    have HR0 : Hid (roomT (hom seed) c = if 3 * c.length < 4 * (cnt c + 1) then sizeC (hom seed (2 * c.length)) (2 * c.length) c else c) := rfl
    obtain ⟨R, hR⟩ : ∃ R, R = roomT (hom seed) c := ⟨_, rfl⟩
    have HPT : Hid (putT (hom seed) c k x = putC (hom seed R.length) R k x) := by show _ = _; rw [hR]; rfl
    rw [← hR] at HR0 HRT
    obtain ⟨T, hT⟩ : ∃ T, T = putT (hom seed) c k x := ⟨_, rfl⟩
    rw [← hT] at HPT HPG ⊢
    clear h hv hz hno hR hT
    go_enter Try.func15, Try.ntmps15
    go_wp2_with fail
    refine HL.out.mono ?_
    rintro e w1 ⟨rfl, hb⟩
    have H1 := Lib.hid (HH.out.below hb (Nat.le_refl _))
    have HB := Lib.hid hb
    clear hb HL
    obtain ⟨A, cap, hBk, _⟩ := H1.out.pl.has
    obtain ⟨c0, c1, c2, _⟩ := hBk.three
    clear hBk
    by_cases hroom : 3 * c.length < 4 * (cnt c + 1)
    · have hrI : 3 * (c.length : Int) < 4 * ((cnt c : Int) + 1) := by omega
      have HRE : Hid (R = sizeC (hom seed (2 * c.length)) (2 * c.length) c) := by show _ = _; rw [HR0.out, if_pos hroom]
      have HSZ : Hid (∀ W, Pt F W g seed c → Calls Try.prog 37 #[.pointer (some ⟨g, 0, none⟩), .int .i64 (2 * (c.length : Int))] W (sizePost F W g seed (cnt c : Int) R)) := fun W hW => by
        have := resize_any hW.pl hW.good.tab (2 * c.length) (Pw.double hW.pl.pw hW.pl.lim) (by omega) (by omega)
        rw [← HRE.out] at this
        exact_mod_cast this
      clear hroom
      go_wp2_with fail
      go_quiet (fail)
      have H2 := Lib.hid (H1.out.drewN nq)
      go_wp2_with fail
      refine (HSZ.out _ H2.out).mono ?_
      rintro e w2 ⟨rfl, hp2, ho2⟩
      have HP2 := Lib.hid hp2
      have HO2 : Hid (Only F w w2) := ((Only.of_below HB.out (Nat.le_refl _) F).drewN nq).trans (ho2.mono fun _ _ hf => Or.inl hf)
      have hz2 := ho2.size
      have hz1 := HB.out.size
      have HP2m : Hid (Pl (More F w) w2 g seed (cnt c : Int) R) := HP2.out.mono fun j _ hf => hf.elim Or.inl (fun h => Or.inr (by simp at h; omega))
      clear hp2 ho2 c0 c1 c2
      have HAD := Lib.hid (add_any HP2m.out (free_of_cnt (by have h1 := HRT.out.2.1; have h2 := HRT.out.2.2.1; unfold putN at h1; have := HH.out.good.hi; have := HH.out.good.lo; split at h1 <;> omega)) k HK.out.1 HK.out.2 (fun y hm => HNO.out y ((HRT.out.2.2.2 _).1 hm)) x (by omega))
      rw [← HPT.out] at HAD
      go_wp2_with fail
      refine HAD.out.mono ?_
      rintro e w3 ⟨rfl, hp3, ho3⟩
      have HP3 := Lib.hid hp3
      have HO3 := Lib.hid (HO2.out.trans ho3)
      obtain ⟨A3, cap3, hB3, _⟩ := hp3.has
      obtain ⟨d0, d1, d2, df0, df1, df2⟩ := hB3.three
      have HKE := Lib.hid (Pl.keys hp3 ((cnt c : Int) + 1))
      clear hp3 ho3 hB3 HAD
      go_wp2_with fail
      go_ret
      refine ⟨rfl, ⟨?_, HPG.out.1⟩, HO3.out.trans (HKE.out.2.mono fun _ _ hf => hf)⟩
      rw [HPG.out.2.2.1]
      exact_mod_cast HKE.out.1
    · have hrI : decide (3 * (c.length : Int) < 4 * ((cnt c : Int) + 1)) = false := by simp; omega
      have HRE : Hid (R = c) := by show _ = _; rw [HR0.out, if_neg hroom]
      clear hroom
      go_wp2_with fail
      go_quiet (fail)
      obtain ⟨w2, hw2⟩ : ∃ w2, w2 = w1.drewN nq := ⟨_, rfl⟩
      have HP2m : Hid (Pl (More F w) w2 g seed (cnt c : Int) R) := by show Pl _ _ _ _ _ _; rw [HRE.out, hw2]; exact (H1.out.drewN nq).pl.mono (fun _ _ hf => Or.inl hf)
      have HO2 : Hid (Only F w w2) := by show Only _ _ _; rw [hw2]; exact (Only.of_below HB.out (Nat.le_refl _) F).drewN nq
      rw [← hw2]
      clear hw2 c0 c1 c2
      have HAD := Lib.hid (add_any HP2m.out (free_of_cnt (by have h1 := HRT.out.2.1; have h2 := HRT.out.2.2.1; unfold putN at h1; have := HH.out.good.hi; have := HH.out.good.lo; split at h1 <;> omega)) k HK.out.1 HK.out.2 (fun y hm => HNO.out y ((HRT.out.2.2.2 _).1 hm)) x (by omega))
      rw [← HPT.out] at HAD
      go_wp2_with fail
      refine HAD.out.mono ?_
      rintro e w3 ⟨rfl, hp3, ho3⟩
      have HP3 := Lib.hid hp3
      have HO3 := Lib.hid (HO2.out.trans ho3)
      obtain ⟨A3, cap3, hB3, _⟩ := hp3.has
      obtain ⟨d0, d1, d2, df0, df1, df2⟩ := hB3.three
      have HKE := Lib.hid (Pl.keys hp3 ((cnt c : Int) + 1))
      clear hp3 ho3 hB3 HAD
      go_wp2_with fail
      go_ret
      refine ⟨rfl, ⟨?_, HPG.out.1⟩, HO3.out.trans (HKE.out.2.mono fun _ _ hf => hf)⟩
      rw [HPG.out.2.2.1]
      exact_mod_cast HKE.out.1
end
end Go.Proofs.Ythabnffmlgppdaa.Pf
