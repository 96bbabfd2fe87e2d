/- Proves what the method Del of a table returns and leaves. Conditions: as the theorem names them. -/
import Derived.Test.YthabnffmlgppdaaPf
namespace Go.Proofs.Ythabnffmlgppdaa.Pg
open Go.RowKit Ap Mi Nw Rg Hm Tm Tn Ta Pm Pa Pb Pc Pd Pe Pf
open Tf (okK okK_spec Gets)
open Th (Dels)
open To (delT delN del_good)

section
variable {F F' : Nat → Prop} {w w' : World} {g : Nat} {seed m : Int} {c : List (Cell Key)}
set_option maxRecDepth 100000 in
set_option maxHeartbeats 2000000 in
theorem del_any (h : Pt F w g seed c) (k : Key) (hk : k.length ≤ 1000000) (hn : c.length ≤ 400000) {m e : Int} {c' : List (Cell Key)} (hD : Dels seed c k c' m e) :
    Calls Try.prog 26 #[.pointer (some ⟨g, 0, none⟩), .string ⟨k.toArray⟩] w (putPost F w g seed c' (.tuple #[.int .i64 m, .int .i64 e])) := by
  unfold putPost
  have HA := Lib.hid (at_any h k hk 0)
  have HG := Lib.hid hD
  have HH := Lib.hid h
  clear h hD
  go_enter Try.func26, Try.ntmps26
  go_wp2_with fail
  refine HA.out.mono ?_
  rintro q w1 ⟨r, f, rfl, hat, hb⟩
  have H1 := Lib.hid (HH.out.below hb (Nat.le_refl _))
  have HB := Lib.hid hb
  clear hb HA
  rcases hat with ⟨hv, rfl, rfl⟩ | ⟨hv, _, ⟨i, x, hi, rfl⟩, rfl⟩ | ⟨hv, _, hno, rfl⟩
  · have HE : Hid (m = 0 ∧ e = 2 ∧ c' = c) := by
      rcases HG.out with ⟨h1, h2, h3, h4⟩ | ⟨h1, _, _⟩
      · rcases h3 with ⟨_, _, h5⟩ | ⟨_, _, h5⟩ | ⟨h6, _⟩
        · exact ⟨h2, h5, h1⟩
        · exact absurd h5 h4
        · rcases hv with h7 | h7
          · rw [h6] at h7; cases h7
          · omega
      · rcases hv with h7 | h7
        · rw [h1] at h7; cases h7
        · omega
    clear hv
    go_wp2_with fail
    go_ret2
    obtain ⟨h1, h2, h3⟩ := HE.out
    subst h1; subst h2; subst h3
    exact ⟨rfl, H1.out.mono (fun _ _ hf => Or.inl hf), Only.of_below HB.out (Nat.le_refl _) _⟩
  · have HE : Hid (m = (x : Int) ∧ e = 0 ∧ c' = delT (hom seed) c i) := by
      rcases HG.out with ⟨_, _, h3, h4⟩ | ⟨h1, ⟨i', x', h2, h3, h4⟩, h5⟩
      · rcases h3 with ⟨h5, _, _⟩ | ⟨_, _, h5⟩ | ⟨_, h5, _⟩
        · rw [hv] at h5; cases h5
        · exact absurd h5 h4
        · exact absurd (List.mem_of_getElem? hi) (h5 x)
      · have e1 := To.num_one HH.out.good (List.mem_of_getElem? hi) (List.mem_of_getElem? h2)
        have e2 := HH.out.good.tab.one i i' k x x' hi h2
        subst e1; subst e2
        exact ⟨h3, h5, h4⟩
    have HDG := Lib.hid (del_good HH.out.good hi)
    have HDT := Lib.hid (del_tab HH.out.good.tab hi HH.out.good.free)
    have HEM := Lib.hid (empty_any H1.out.pl H1.out.good.tab H1.out.good.free hi)
    have HD0 : Hid (delT (hom seed) c i = if 8 < c.length ∧ 8 * cnt (delC (hom seed c.length) c i) < c.length then sizeC (hom seed (c.length / 2)) (c.length / 2) (delC (hom seed c.length) c i) else delC (hom seed c.length) c i) := rfl
    obtain ⟨D, hDD⟩ : ∃ D, D = delC (hom seed c.length) c i := ⟨_, rfl⟩
    rw [← hDD] at HDT HEM HD0
    obtain ⟨T, hT⟩ : ∃ T, T = delT (hom seed) c i := ⟨_, rfl⟩
    rw [← hT] at HE HD0 HDG
    obtain ⟨gA, oA, cap, hB, lA, _, _, e0, e1, _, _, _⟩ := H1.out.pl.slot hi
    obtain ⟨c0, c1, c2, _⟩ := hB.three
    have lg : g < w1.heap.size := hB.lt
    have i1 : (i : Int) < (c.length : Int) := by have := lt_of_some hi; omega
    have a1 : w1.cell? ⟨gA, oA + i * 2 + 1, none⟩ = some (.int .i64 (x : Int)) := e1
    clear hB e0 e1 hi hv HG hDD hT
    go_wp2_with fail
    refine HEM.out.mono ?_
    rintro q w2 ⟨rfl, hp2, ho2⟩
    have HP2 := Lib.hid hp2
    have HO2 := Lib.hid ((Only.of_below HB.out (Nat.le_refl _) F).trans (ho2.mono fun _ _ hf => Or.inl hf))
    have hz2 := ho2.size
    have hz1 := HB.out.size
    obtain ⟨A2, cap2, hB2, _⟩ := hp2.has
    have HKE := Lib.hid (Pl.keys hp2 (cnt D : Int))
    have hcD : (cnt c : Int) - 1 = (cnt D : Int) := by have := HDT.out.2.2.1; omega
    have HLD := HDT.out.2.1
    rw [HLD] at hB2
    have hcl := cnt_le c
    clear hp2 ho2 c0 c1 c2 a1 HEM
    obtain ⟨c0, c1, c2, f0, f1, f2⟩ := hB2.three
    clear hB2
    go_upto_region 7 with (fail)
    try rw [hcD]
    obtain ⟨w3, hw3⟩ : ∃ w3, w3 = w2.setCell ⟨g, 2, none⟩ (.int .i64 (cnt D : Int)) := ⟨_, rfl⟩
    rw [← hw3] at HKE ⊢
    have HP3 := Lib.hid HKE.out.1
    have HO3 := Lib.hid (HO2.out.trans (HKE.out.2.mono fun _ _ hf => Or.inl hf))
    have hz3 : w2.heap.size ≤ w3.heap.size := HKE.out.2.size
    have hcD' : cnt D ≤ c.length := by omega
    obtain ⟨A3, cap3, hB3, _⟩ := HP3.out.has
    rw [HLD] at hB3
    clear hw3 HKE HP2 HO2 c0 c1 c2 f0 f1 f2 hcD
    have HLD' := Lib.hid HLD
    clear HLD
    obtain ⟨c0, c1, c2, f0, f1, f2⟩ := hB3.three
    clear hB3
    by_cases hc1 : 8 < c.length
    · have d1 : decide ((8 : Int) < (c.length : Int)) = true := by simp; omega
      by_cases hc2 : 8 * cnt D < c.length
      · have d2 : decide (8 * (cnt D : Int) < (c.length : Int)) = true := by simp; omega
        have HTE : Hid (T = sizeC (hom seed (c.length / 2)) (c.length / 2) D) := by show _ = _; rw [HD0.out, if_pos ⟨hc1, hc2⟩]
        have HSZ : Hid (∀ W, Pl F W g seed (cnt D : Int) D → Calls Try.prog 37 #[.pointer (some ⟨g, 0, none⟩), .int .i64 ((c.length : Int) / 2)] W (sizePost F W g seed (cnt D : Int) T)) := fun W hW => by
          have := resize_any hW HDT.out.1 (c.length / 2) (Pw.half HH.out.pl.pw hc1) (by omega) (by omega)
          rw [← HTE.out] at this
          exact_mod_cast this
        clear hc1 hc2
        go_wp2_with fail
        go_quiet (fail)
        have HP4 := Lib.hid (HP3.out.drewN nq)
        go_wp2_with fail
        refine (HSZ.out _ HP4.out).mono ?_
        rintro e w4 ⟨rfl, hp4, ho4⟩
        have HP5 : Hid (Pl (More F w) w4 g seed (cnt D : Int) T) := hp4.mono fun j _ hf => hf.elim Or.inl (fun h => Or.inr (by simp at h; omega))
        have HO5 : Hid (Only F w w4) := (HO3.out.drewN nq).trans (ho4.mono fun _ _ hf => Or.inl hf)
        clear hp4 ho4 HSZ c0 c1 c2 f0 f1 f2
        have HCT : Hid (cnt T = cnt D) := by show _ = _; have h1 := HDG.out.2.2.1; have h2 := HDT.out.2.2.1; omega
        go_wp2_with fail
        go_ret2
        obtain ⟨h1, h2, h3⟩ := HE.out
        subst h1; subst h2; subst h3
        exact ⟨rfl, ⟨by rw [HCT.out]; exact HP5.out, HDG.out.1⟩, HO5.out⟩
      · have d2 : decide (8 * (cnt D : Int) < (c.length : Int)) = false := by simp; omega
        have HTE : Hid (T = D) := by show _ = _; rw [HD0.out, if_neg (fun h => hc2 h.2)]
        clear hc1 hc2
        go_wp2_with fail
        go_quiet (fail)
        have HP5 : Hid (Pl (More F w) (w3.drewN nq) g seed (cnt D : Int) D) := (HP3.out.drewN nq).mono (fun _ _ hf => Or.inl hf)
        have HO5 := Lib.hid (HO3.out.drewN nq)
        go_wp2_with fail
        go_ret2
        obtain ⟨h1, h2, h3⟩ := HE.out
        have h4 := HTE.out
        subst h4
        subst h1; subst h2; subst h3
        exact ⟨rfl, ⟨HP5.out, HDG.out.1⟩, HO5.out⟩
    · have d1 : decide ((8 : Int) < (c.length : Int)) = false := by simp; omega
      have HTE : Hid (T = D) := by show _ = _; rw [HD0.out, if_neg (fun h => hc1 h.1)]
      clear hc1
      go_wp2_with fail
      go_quiet (fail)
      have HP5 : Hid (Pl (More F w) (w3.drewN nq) g seed (cnt D : Int) D) := (HP3.out.drewN nq).mono (fun _ _ hf => Or.inl hf)
      have HO5 := Lib.hid (HO3.out.drewN nq)
      go_wp2_with fail
      go_ret2
      obtain ⟨h1, h2, h3⟩ := HE.out
      have h4 := HTE.out
      subst h4
      subst h1; subst h2; subst h3
      exact ⟨rfl, ⟨HP5.out, HDG.out.1⟩, HO5.out⟩
  · have HE : Hid (m = 0 ∧ e = 9 ∧ c' = c) := by
      rcases HG.out with ⟨h1, h2, h3, h4⟩ | ⟨_, ⟨i', x', h2, _⟩, _⟩
      · rcases h3 with ⟨h5, _, _⟩ | ⟨_, _, h5⟩ | ⟨_, _, _, h5⟩
        · rw [hv] at h5; cases h5
        · exact absurd h5 h4
        · exact ⟨h2, h5, h1⟩
      · exact absurd (List.mem_of_getElem? h2) (hno x')
    clear hv hno
    go_wp2_with fail
    go_ret2
    obtain ⟨h1, h2, h3⟩ := HE.out
    subst h1; subst h2; subst h3
    exact ⟨rfl, H1.out.mono (fun _ _ hf => Or.inl hf), Only.of_below HB.out (Nat.le_refl _) _⟩
end
end Go.Proofs.Ythabnffmlgppdaa.Pg
