/- Proves that InternPlays returns true. Conditions: as each theorem names them. -/
import Derived.Test.YtmhbfplpodikiaaAl
namespace Go.Proofs.Ytmhbfplpodikiaa.Am
open Go.RowKit Ap Mi Nw Rg Aa Ab Ac Ad Ag Ah Ai Aj Ak Al
open Ae (Nx Tn put2 put2_blk put2_only add_any rel_any addPost relPost)

/-- Between two rounds: the document's table lies in block M. -/
structure Ro (N M : Nat) (w0 : World) (m : Int) (K : Nat) (F G : Nat → Prop) (g : Nat) (l : List Nr) (A : Option Addr) (c : Nat) (w : World) : Prop where
  st : St F w g m l
  rt : RT G w A c l
  d : ∀ j, F j → ¬ G j
  f : ∀ j, F j → N ≤ j ∧ j ≠ M ∧ j < w.heap.size
  t : ∀ j, G j → N ≤ j ∧ j ≠ M ∧ j < w.heap.size
  bm : Blk w M #[.int .i64 m, .slice A l.length c] 31
  bl : Below N w0 w
  mn : N ≤ M
  iv : Iv l
  fi : Fine (K : Int) l
  le : l.length ≤ K
section
variable {N M : Nat} {w0 : World} {m : Int} {K : Nat} {F G : Nat → Prop} {g : Nat} {l L : List Nr} {A A' : Option Addr} {c c' : Nat} {w v u u1 u2 u3 : World}
theorem Ro.below (h : Ro N M w0 m K F G g l A c w) (hb : Below w.heap.size w v) : Ro N M w0 m K F G g l A c v :=
  ⟨h.st.below hb, h.rt.below hb (Nat.le_refl _), h.d, fun j hj => ⟨(h.f j hj).1, (h.f j hj).2.1, Nat.lt_of_lt_of_le (h.f j hj).2.2 hb.size⟩, fun j hj => ⟨(h.t j hj).1, (h.t j hj).2.1, Nat.lt_of_lt_of_le (h.t j hj).2.2 hb.size⟩, h.bm.below hb h.bm.lt, h.bl.trans (hb.mono (by have := h.bm.lt; have := h.mn; omega)), h.mn, h.iv, h.fi, h.le⟩
theorem Ro.f31 (h : Ro N M w0 m K F G g l A c w) (hK : K ≤ 100000) : Fine 2147483646 l := fine_mono h.fi (by omega)
theorem Ro.f40 (h : Ro N M w0 m K F G g l A c w) (hK : K ≤ 100000) : Fine 1099511627776 l := fine_mono h.fi (by omega)
theorem ro_next (h : Ro N M w0 m K F G g l A c v) (hN : Nx G v u1 L A' c') (hb : Below u1.heap.size u1 u2) (hg : Gave F u2 u3 g m L) (hi : Iv L) (hf : Fine ((K + 1 : Nat) : Int) L) (hl : L.length ≤ K + 1) :
    ∃ F' G', Ro N M w0 m (K + 1) F' G' g L A' c' (put2 u3 M (.int .i64 m) (.slice A' L.length c')) := by
  obtain ⟨F', h1, h2, h3⟩ := hg
  have z1 := hN.b.size; have z2 := hb.size; have z3 := h3.size
  have ho := put2_only u3 M (.int .i64 m) (.slice A' L.length c')
  have lM := h.bm.lt; have hmn := h.mn
  have bm := ((h.bm.below hN.b lM).below hb (by omega)).only h3 (fun hq => (h.f _ hq).2.1 rfl)
  have rt := (hN.r.below hb (Nat.le_refl _)).only h3 (fun j hq ht => by
    rcases ht with h4 | h4
    · exact h.d j hq h4
    · have := (h.f j hq).2.2; omega)
  have fF : ∀ j, F' j ∧ j < u3.heap.size → N ≤ j ∧ j ≠ M := fun j hj => by
    rcases h2 j hj.1 with h4 | h4
    · exact ⟨(h.f j h4).1, (h.f j h4).2.1⟩
    · exact ⟨by omega, by omega⟩
  have gF : ∀ j, Tn G v u1 j → N ≤ j ∧ j ≠ M ∧ j < u1.heap.size := fun j hj => by
    rcases hj with h4 | h4
    · have := h.t j h4; exact ⟨this.1, this.2.1, by omega⟩
    · exact ⟨by omega, by omega, by omega⟩
  have b1 : Below N w0 u3 := ((h.bl.trans (hN.b.mono (by omega))).trans (hb.mono (by omega))).trans (h3.below (fun j hj => (h.f j hj).1) (by omega))
  refine ⟨_, Tn G v u1, h1.tight.only ho (fun j hj e => (fF j hj).2 e), rt.only ho (fun j e hj => (gF j hj).2.1 e), fun j hj ht => ?_, fun j hj => ⟨(fF j hj).1, (fF j hj).2, Nat.lt_of_lt_of_le hj.2 ho.size⟩, fun j hj => ⟨(gF j hj).1, (gF j hj).2.1, by have := (gF j hj).2.2; have := ho.size; omega⟩, put2_blk bm _ _, b1.trans (ho.below (fun j e => by omega) (by omega)), hmn, hi, hf, hl⟩
  rcases h2 j hj.1 with h4 | h4
  · rcases ht with h5 | h5
    · exact h.d j h4 h5
    · have := (h.f j h4).2.2; omega
  · have := (gF j ht).2.2; omega
/-- The copy goes on; the elder table has changed in between. -/
theorem ro_copy2 {F1 : Nat → Prop} {g1 : Nat} (h : Ro N M w0 m K F G g l A c v) (hs : St F1 u1 g1 m l) (hF : ∀ j, F1 j → v.heap.size ≤ j) (hb : Below v.heap.size v u1) {L2 : List Nr} {F2 : Nat → Prop} (h2 : ∀ j, F2 j → More F u1 j) (h3 : Only F u1 u2) (hg2 : Gave (fun j => F2 j ∧ j < u2.heap.size) u2 u3 g m L2) :
    ∃ F', Ro N M w0 m (K + 1) F' G g1 l A c u3 := by
  obtain ⟨F3, h4, h5, h6⟩ := hg2
  have z1 := hb.size; have z2 := h3.size; have z3 := h6.size
  have lM := h.bm.lt; have hmn := h.mn
  have f2 : ∀ j, F2 j ∧ j < u2.heap.size → N ≤ j ∧ j ≠ M ∧ ¬ G j ∧ ¬ (F1 j ∧ j < u1.heap.size) := fun j hj => by
    rcases h2 j hj.1 with q | q
    · have := h.f j q
      exact ⟨this.1, this.2.1, h.d j q, fun e => by have := hF j e.1; omega⟩
    · exact ⟨by omega, by omega, fun e => by have := (h.t j e).2.2; omega, fun e => by omega⟩
  have st1 := (hs.tight.only h3 (fun j hj e => by have := hF j hj.1; have := (h.f j e).2.2; omega)).only h6 (fun j hj e => (f2 j e).2.2.2 hj)
  refine ⟨_, st1, ((h.rt.below hb (Nat.le_refl _)).only h3 (fun j hq => h.d j hq)).only h6 (fun j hq => (f2 j hq).2.2.1), fun j hj e => ?_, fun j hj => ⟨?_, ?_, ?_⟩, fun j hj => ⟨(h.t j hj).1, (h.t j hj).2.1, by have := (h.t j hj).2.2; omega⟩, ((h.bm.below hb lM).only h3 (fun hq => (h.f _ hq).2.1 rfl)).only h6 (fun hq => (f2 _ hq).2.1 rfl), ((h.bl.trans (hb.mono (by omega))).trans (h3.below (fun j hj => (h.f j hj).1) (by omega))).trans (h6.below (fun j hj => (f2 j hj).1) (by omega)), hmn, h.iv, fine_mono h.fi (by omega), by have := h.le; omega⟩
  · have := hF j hj.1; have := (h.t j e).2.2; omega
  · have := hF j hj.1; omega
  · have := hF j hj.1; omega
  · omega
open Classical in
set_option maxRecDepth 100000 in
set_option maxHeartbeats 4000000 in
theorem plays_walk (D : Option Addr) (q0 : Nat) (acts : List Ca) (m : Int) (W : World) (ha : Rs W 3 D acts.length q0 (caL acts)) :
    Calls Try.prog 4 #[.int .i64 m, .slice D acts.length q0] W (boolTo true W) := by
  have HA := Lib.hid ha
  have HFW := Lib.hid (few_any ha)
  have hcm := Rs.max ha
  have hcl := Rs.le ha
  unfold maxLen at hcm
  unfold boolTo
  clear ha
  by_cases hm : 1 ≤ m ∧ m ≤ 65536
  case neg =>
    have hm12 : m < 1 ∨ (¬ m < 1 ∧ 65536 < m) := by omega
    rcases hm12 with i1 | ⟨i1, i2⟩
    · clear hm
      go_enter Try.func4, Try.ntmps4
      go_wp2_with fail
      refine (known_any _).mono ?_
      rintro q w9 ⟨rfl, hb⟩
      have HB9 := Lib.hid hb
      clear hb
      go_wp2_with fail
      go_ret
      exact ⟨rfl, HB9.out⟩
    · clear hm
      go_enter Try.func4, Try.ntmps4
      go_wp2_with fail
      refine (known_any _).mono ?_
      rintro q w9 ⟨rfl, hb⟩
      have HB9 := Lib.hid hb
      clear hb
      go_wp2_with fail
      go_ret
      exact ⟨rfl, HB9.out⟩
  have i1 : ¬ m < 1 := by omega
  have i2 : ¬ 65536 < m := by omega
  have HM := Lib.hid hm
  clear hm
  by_cases hfw : fewP acts
  case neg =>
    rw [decide_eq_false hfw] at HFW
    clear hfw
    go_enter Try.func4, Try.ntmps4
    go_wp2_with fail
    refine HFW.out.mono ?_
    rintro q w1 ⟨rfl, hw⟩
    have hw2 := hw.symm; clear hw; subst hw2
    go_wp2_with fail
    refine (known_any _).mono ?_
    rintro q w9 ⟨rfl, hb⟩
    have HB9 := Lib.hid hb
    clear hb
    go_wp2_with fail
    go_ret
    exact ⟨rfl, HB9.out⟩
  rw [decide_eq_true hfw] at HFW
  have HFP := Lib.hid hfw
  have hl60 := hfw.1
  clear hfw
  have HNW := Lib.hid (new_yes HM.out 5 (by omega) W)
  unfold newPost at HNW
  go_enter Try.func4, Try.ntmps4
  go_wp2_with fail
  refine HFW.out.mono ?_
  rintro q w1 ⟨rfl, hw⟩
  have hw2 := hw.symm; clear hw; subst hw2
  clear HFW
  go_wp2_with fail
  refine HNW.out.mono ?_
  rintro q w3 ⟨g, F0, rfl, hst, hf0, hb3⟩
  clear HNW
  obtain ⟨v3, hv3⟩ : ∃ v3, v3 = w3.alloc (.cells #[.int .i64 m, .slice none 0 0] 31) := ⟨_, rfl⟩
  have b3 : Below w3.heap.size w3 v3 := by rw [hv3]; exact bnew _ _
  have k3 : Blk v3 w3.heap.size #[.int .i64 m, .slice none 0 0] 31 := by rw [hv3]; exact Blk.new _ _ _
  obtain ⟨M, hM⟩ : ∃ M, M = w3.heap.size := ⟨_, rfl⟩
  have hz3 := hb3.size
  have HRO : Hid (Ro W.heap.size M W m 0 (fun j => F0 j ∧ j < w3.heap.size) (fun _ => False) g [] none 0 v3) := by
    rw [← hM] at k3
    exact ⟨hst.tight.below b3, RT.nil, (fun _ _ h => h), fun j hj => ⟨hf0 j hj.1, by have := hj.2; omega, Nat.lt_of_lt_of_le hj.2 b3.size⟩, (fun _ h => h.elim), k3, hb3.trans (b3.mono hz3), by omega, iv_nil, (fun x hx => by cases hx), Nat.le_refl _⟩
  clear hst hf0 b3 k3 hz3 hb3
  go_upto_region 5 with fail
  rw [← hv3, ← hM]
  clear hv3 hM
  go_wp2_with fail
  go_loopw [5, 8] (fun pv i wr => ∃ (K g : Nat) (F G : Nat → Prop) (l : List Nr) (A2 : Option Addr) (c2 : Nat), K ≤ acts.length ∧ pv = .pointer (some ⟨g, 0, none⟩) ∧ i = .int .i64 (K : Int) ∧ Ro W.heap.size M W m K F G g l A2 c2 wr) (fun _ i _ => acts.length - (intOf i).toNat)
  case atStart => exact ⟨0, g, _, _, [], none, 0, Nat.zero_le _, rfl, rfl, HRO.out⟩
  case round =>
    obtain ⟨K, g, F, G, l, A2, c2, hK, rfl, rfl, hro⟩ := hrel
    clear HRO
    by_cases hlt : K < acts.length
    · have j1 : (K : Int) < (acts.length : Int) := by omega
      have hK60 : K ≤ 60 := by omega
      obtain ⟨tb, to_, rfl, ltb, a0, a1, a2⟩ := ca_at (HA.out.below hro.bl (Nat.le_refl _)) hlt
      obtain ⟨y, hy⟩ : ∃ y, y = acts[K] := ⟨_, rfl⟩
      have hyk : y.k.size ≤ 100 := by rw [hy]; exact HFP.out.2 _ (List.getElem_mem hlt)
      have hy2 := hy.symm
      rw [hy2] at a0 a1 a2
      clear hy hy2
      obtain ⟨v0, hv0⟩ : ∃ v0, v0 = wr.alloc (.cells #[.int .i64 y.q, .int .i64 y.n, .string y.k] 36) := ⟨_, rfl⟩
      obtain ⟨b9, hb9⟩ : ∃ b9, b9 = wr.heap.size := ⟨_, rfl⟩
      have hb0 : Below wr.heap.size wr v0 := by rw [hv0]; exact bnew _ _
      have K9 : Hid (Blk v0 b9 #[.int .i64 y.q, .int .i64 y.n, .string y.k] 36) := by show Blk _ _ _ _; rw [hv0, hb9]; exact Blk.new _ _ _
      have HR0 := Lib.hid (hro.below hb0)
      have HN9 : Hid (∀ j, F j → j ≠ b9) := fun j hj => by have := (hro.f j hj).2.2; omega
      have HNM : Hid (M ≠ b9) := by show M ≠ b9; have := hro.bm.lt; omega
      clear hro hb0
      go_upto_region 11 with fail
      rw [← hv0, ← hb9]
      clear hv0 hb9 a0 a1 a2
      by_cases h0 : y.q = 0
      · have e0 : (y.q == 0) = true := by simp [h0]
        clear h0
        have HC := Lib.hid (add_any m y.k HR0.out.rt (by have := HR0.out.le; omega) (HR0.out.f40 (by omega)))
        unfold addPost tbV at HC
        have IV := Lib.hid (iv_add HR0.out.iv m y.k)
        have FI : Hid (Fine ((K + 1 : Nat) : Int) (addL m l y.k)) := by have := fine_add HR0.out.fi (by omega) y.k (most := m); rw [show (((K + 1 : Nat)) : Int) = (K : Int) + 1 by omega]; exact this
        have LE : Hid ((addL m l y.k).length ≤ K + 1) := by show _ ≤ _; have := (addL_len m l y.k).2; have := HR0.out.le; omega
        obtain ⟨V, hV⟩ : ∃ V, V = addV m l y.k := ⟨_, rfl⟩
        obtain ⟨E, hE⟩ : ∃ E, E = addE m l y.k := ⟨_, rfl⟩
        obtain ⟨L, hL⟩ : ∃ L, L = addL m l y.k := ⟨_, rfl⟩
        rw [← hV, ← hE, ← hL] at HC
        rw [← hL] at IV FI LE
        have HV := Lib.hid hV.symm; have HE := Lib.hid hE.symm; have HL := Lib.hid hL.symm
        clear hV hE hL
        obtain ⟨m0, m1, _⟩ := HR0.out.bm.two
        have lm := HR0.out.bm.lt
        obtain ⟨x0, x1, x2, _⟩ := K9.out.three
        have l9 := K9.out.lt
        go_wp2_with fail
        refine HC.out.mono ?_
        rintro q u1 ⟨A3, c3, rfl, hn⟩
        have HN := Lib.hid hn
        clear hn HC m0 m1 lm x0 x1 x2 l9
        obtain ⟨u2, hu2⟩ : ∃ u2, u2 = u1.alloc (.cells #[.int .i64 m, .slice A3 L.length c3] 31) := ⟨_, rfl⟩
        obtain ⟨ba, hba⟩ : ∃ ba, ba = u1.heap.size := ⟨_, rfl⟩
        have HB2 : Hid (Below u1.heap.size u1 u2) := by show Below _ _ _; rw [hu2]; exact bnew _ _
        have KA : Hid (Blk u2 ba #[.int .i64 m, .slice A3 L.length c3] 31) := by show Blk _ _ _ _; rw [hu2, hba]; exact Blk.new _ _ _
        have hz1 := HN.out.b.size
        have hz2 := HB2.out.size
        have HNA : Hid (∀ j, F j → j ≠ ba) := fun j hj => by have := (HR0.out.f j hj).2.2; omega
        have HMA : Hid (M ≠ ba) := by show M ≠ ba; have := HR0.out.bm.lt; omega
        go_upto_region 18 with fail
        rw [← hu2, ← hba]
        clear hu2 hba
        have K92 := Lib.hid ((K9.out.below HN.out.b K9.out.lt).below HB2.out (by have := K9.out.lt; omega))
        have S2 := Lib.hid ((HR0.out.st.below HN.out.b).below HB2.out)
        have HAD := Lib.hid (adds_true S2.out (HR0.out.f31 (by omega)) y.k (by omega) HV.out HE.out)
        obtain ⟨x0, x1, x2, _⟩ := K92.out.three
        have l9 := K92.out.lt
        go_wp2_with fail
        refine HAD.out.mono ?_
        rintro q u3 ⟨rfl, hg⟩
        rw [HL.out] at hg
        have HG := Lib.hid hg
        obtain ⟨_, _, _, ho3⟩ := hg
        have K93 := Lib.hid (K92.out.only ho3 (fun hf => HN9.out _ hf rfl))
        have KA3 := Lib.hid (KA.out.only ho3 (fun hf => HNA.out _ hf rfl))
        have BM3 := Lib.hid (((HR0.out.bm.below HN.out.b HR0.out.bm.lt).below HB2.out (by have := HR0.out.bm.lt; omega)).only ho3 (fun hf => (HR0.out.f _ hf).2.1 rfl))
        clear ho3 HAD x0 x1 x2 l9
        obtain ⟨F4, G4, hro4⟩ := ro_next HR0.out HN.out HB2.out HG.out IV.out FI.out LE.out
        have K94 := Lib.hid (K93.out.only (put2_only u3 M (.int .i64 m) (.slice A3 L.length c3)) (fun e => HNM.out e.symm))
        obtain ⟨s0, s1, _⟩ := KA3.out.two
        have ls := KA3.out.lt
        obtain ⟨_, _, nf0, nf1⟩ := BM3.out.two
        obtain ⟨n0, n1, _⟩ := BM3.out.two
        have ln := BM3.out.lt
        obtain ⟨u4, hu4⟩ : ∃ u4, u4 = put2 u3 M (.int .i64 m) (.slice A3 L.length c3) := ⟨_, rfl⟩
        rw [← hu4] at hro4 K94
        have HR4 := Lib.hid hro4
        unfold put2 at hu4
        clear hro4
        go_upto_region 26 with fail
        rw [← hu4]
        clear hu4 s0 s1 ls n0 n1 nf0 nf1 ln
        have HIS := Lib.hid (is_true HR4.out.st HR4.out.rt HR4.out.iv (by have := HR4.out.le; omega) y.k (by omega) y.n)
        unfold tbV boolTo at HIS
        obtain ⟨m0, m1, _⟩ := HR4.out.bm.two
        have lm := HR4.out.bm.lt
        obtain ⟨x0, x1, x2, _⟩ := K94.out.three
        have l9 := K94.out.lt
        go_wp2_with fail
        refine HIS.out.mono ?_
        rintro q u8 ⟨rfl, hb⟩
        have HR8 := Lib.hid (HR4.out.below hb)
        clear hb HIS m0 m1 lm x0 x1 x2 l9
        go_wp2_with fail
        go_roundw
        case rel => exact ⟨K + 1, _, _, _, _, _, _, by omega, rfl, by simp, HR8.out⟩
        case measure => simp [intOf]; omega
      · have e0 : (y.q == 0) = false := by simpa using h0
        by_cases h1 : y.q = 1
        · have e1 : (y.q == 1) = true := by simp [h1]
          clear h0 h1
          have HC := Lib.hid (rel_any m y.n HR0.out.rt (by have := HR0.out.le; omega) (HR0.out.f40 (by omega)))
          unfold relPost tbV at HC
          have IV := Lib.hid (iv_rel HR0.out.iv y.n)
          have FI : Hid (Fine ((K + 1 : Nat) : Int) (relL l y.n)) := fine_mono (fine_rel HR0.out.fi (by omega) y.n) (by omega)
          have LE : Hid ((relL l y.n).length ≤ K + 1) := by show _ ≤ _; have := relL_len l y.n; have := HR0.out.le; omega
          obtain ⟨V, hV⟩ : ∃ V, V = relB l y.n := ⟨_, rfl⟩
          obtain ⟨E, hE⟩ : ∃ E, E = relE l y.n := ⟨_, rfl⟩
          obtain ⟨L, hL⟩ : ∃ L, L = relL l y.n := ⟨_, rfl⟩
          rw [← hV, ← hE, ← hL] at HC
          rw [← hL] at IV FI LE
          have HV := Lib.hid hV.symm; have HE := Lib.hid hE.symm; have HL := Lib.hid hL.symm
          clear hV hE hL
          obtain ⟨m0, m1, _⟩ := HR0.out.bm.two
          have lm := HR0.out.bm.lt
          obtain ⟨x0, x1, x2, _⟩ := K9.out.three
          have l9 := K9.out.lt
          go_wp2_with fail
          refine HC.out.mono ?_
          rintro q u1 ⟨A3, c3, rfl, hn⟩
          have HN := Lib.hid hn
          clear hn HC m0 m1 lm x0 x1 x2 l9
          obtain ⟨u2, hu2⟩ : ∃ u2, u2 = u1.alloc (.cells #[.int .i64 m, .slice A3 L.length c3] 31) := ⟨_, rfl⟩
          obtain ⟨ba, hba⟩ : ∃ ba, ba = u1.heap.size := ⟨_, rfl⟩
          have HB2 : Hid (Below u1.heap.size u1 u2) := by show Below _ _ _; rw [hu2]; exact bnew _ _
          have KA : Hid (Blk u2 ba #[.int .i64 m, .slice A3 L.length c3] 31) := by show Blk _ _ _ _; rw [hu2, hba]; exact Blk.new _ _ _
          have hz1 := HN.out.b.size
          have hz2 := HB2.out.size
          have HNA : Hid (∀ j, F j → j ≠ ba) := fun j hj => by have := (HR0.out.f j hj).2.2; omega
          have HMA : Hid (M ≠ ba) := by show M ≠ ba; have := HR0.out.bm.lt; omega
          go_upto_region 23 with fail
          rw [← hu2, ← hba]
          clear hu2 hba
          have K92 := Lib.hid ((K9.out.below HN.out.b K9.out.lt).below HB2.out (by have := K9.out.lt; omega))
          have S2 := Lib.hid ((HR0.out.st.below HN.out.b).below HB2.out)
          have HAD := Lib.hid (frees_true S2.out y.n HV.out HE.out)
          obtain ⟨x0, x1, x2, _⟩ := K92.out.three
          have l9 := K92.out.lt
          go_wp2_with fail
          refine HAD.out.mono ?_
          rintro q u3 ⟨rfl, hg⟩
          rw [HL.out] at hg
          have HG := Lib.hid hg
          obtain ⟨_, _, _, ho3⟩ := hg
          have K93 := Lib.hid (K92.out.only ho3 (fun hf => HN9.out _ hf rfl))
          have KA3 := Lib.hid (KA.out.only ho3 (fun hf => HNA.out _ hf rfl))
          have BM3 := Lib.hid (((HR0.out.bm.below HN.out.b HR0.out.bm.lt).below HB2.out (by have := HR0.out.bm.lt; omega)).only ho3 (fun hf => (HR0.out.f _ hf).2.1 rfl))
          clear ho3 HAD x0 x1 x2 l9
          obtain ⟨F4, G4, hro4⟩ := ro_next HR0.out HN.out HB2.out HG.out IV.out FI.out LE.out
          have K94 := Lib.hid (K93.out.only (put2_only u3 M (.int .i64 m) (.slice A3 L.length c3)) (fun e => HNM.out e.symm))
          obtain ⟨s0, s1, _⟩ := KA3.out.two
          have ls := KA3.out.lt
          obtain ⟨_, _, nf0, nf1⟩ := BM3.out.two
          obtain ⟨n0, n1, _⟩ := BM3.out.two
          have ln := BM3.out.lt
          obtain ⟨u4, hu4⟩ : ∃ u4, u4 = put2 u3 M (.int .i64 m) (.slice A3 L.length c3) := ⟨_, rfl⟩
          rw [← hu4] at hro4 K94
          have HR4 := Lib.hid hro4
          unfold put2 at hu4
          clear hro4
          go_upto_region 26 with fail
          rw [← hu4]
          clear hu4 s0 s1 ls n0 n1 nf0 nf1 ln
          have HIS := Lib.hid (is_true HR4.out.st HR4.out.rt HR4.out.iv (by have := HR4.out.le; omega) y.k (by omega) y.n)
          unfold tbV boolTo at HIS
          obtain ⟨m0, m1, _⟩ := HR4.out.bm.two
          have lm := HR4.out.bm.lt
          obtain ⟨x0, x1, x2, _⟩ := K94.out.three
          have l9 := K94.out.lt
          go_wp2_with fail
          refine HIS.out.mono ?_
          rintro q u8 ⟨rfl, hb⟩
          have HR8 := Lib.hid (HR4.out.below hb)
          clear hb HIS m0 m1 lm x0 x1 x2 l9
          go_wp2_with fail
          go_roundw
          case rel => exact ⟨K + 1, _, _, _, _, _, _, by omega, rfl, by simp, HR8.out⟩
          case measure => simp [intOf]; omega
        · have e1 : (y.q == 1) = false := by simpa using h1
          clear h0 h1
          obtain ⟨x0, x1, x2, _⟩ := K9.out.three
          have l9 := K9.out.lt
          have HCP := Lib.hid (copy_st HR0.out.st)
          unfold mkPost at HCP
          go_wp2_with fail
          refine HCP.out.mono ?_
          rintro q u1 ⟨g1, F1, rfl, hs1, hf1, hb1⟩
          have HS1 := Lib.hid hs1; have HF1 := Lib.hid hf1; have HB1 := Lib.hid hb1
          clear hs1 hf1 hb1 HCP
          have HAD := Lib.hid (add_st (HR0.out.st.below HB1.out) (HR0.out.f31 (by omega)) ⟨#[111, 116, 104, 101, 114]⟩ (by decide))
          go_wp2_with fail
          refine HAD.out.mono ?_
          rintro q u2 ⟨rfl, hg⟩
          have HG := Lib.hid hg
          clear HAD
          obtain ⟨F2, hs2, hf2, ho2⟩ := hg
          have HRL := Lib.hid (rel_st hs2.tight 0)
          have HS2 := Lib.hid hs2; have HF2 := Lib.hid hf2; have HO2 := Lib.hid ho2
          clear hs2 hf2 ho2
          go_wp2_with fail
          refine HRL.out.mono ?_
          rintro q u3 ⟨rfl, hg⟩
          have HG3 := Lib.hid hg
          clear hg HRL
          have hro3 : ∃ F', Ro W.heap.size M W m (K + 1) F' G g1 l A2 c2 u3 := ro_copy2 HR0.out HS1.out HF1.out HB1.out HF2.out HO2.out HG3.out
          obtain ⟨F3, hro3⟩ := hro3
          have HR3 := Lib.hid hro3
          clear hro3
          have K93 : Hid (Blk u3 b9 #[.int .i64 y.q, .int .i64 y.n, .string y.k] 36) := by
            obtain ⟨_, _, _, ho3⟩ := HG3.out
            refine ((K9.out.below HB1.out K9.out.lt).only HO2.out (fun hf => HN9.out _ hf rfl)).only ho3 (fun hf => ?_)
            rcases HF2.out _ hf.1 with h1 | h1
            · exact HN9.out _ h1 rfl
            · have := K9.out.lt; have := HB1.out.size; omega
          have HIS := Lib.hid (is_true HR3.out.st HR3.out.rt HR3.out.iv (by have := HR3.out.le; omega) y.k (by omega) y.n)
          unfold tbV boolTo at HIS
          obtain ⟨m0, m1, _⟩ := HR3.out.bm.two
          have lm := HR3.out.bm.lt
          obtain ⟨x0, x1, x2, _⟩ := K93.out.three
          have l9 := K93.out.lt
          go_wp2_with fail
          refine HIS.out.mono ?_
          rintro q u8 ⟨rfl, hb⟩
          have HR8 := Lib.hid (HR3.out.below hb)
          clear hb HIS m0 m1 lm x0 x1 x2 l9
          go_wp2_with fail
          go_roundw
          case rel => exact ⟨K + 1, _, _, _, _, _, _, by omega, rfl, by simp, HR8.out⟩
          case measure => simp [intOf]; omega
    · obtain rfl : K = acts.length := by omega
      have hnn : ¬ (acts.length : Int) < (acts.length : Int) := by omega
      have HB := Lib.hid hro.bl
      clear hlt hro
      go_wp2_with fail
      refine (known_any _).mono ?_
      rintro q w9 ⟨rfl, hb⟩
      have HB9 := Lib.hid (HB.out.trans (hb.mono HB.out.size))
      clear hb
      go_wp2_with fail
      go_ret
      exact ⟨rfl, HB9.out⟩
end
end Go.Proofs.Ytmhbfplpodikiaa.Am
