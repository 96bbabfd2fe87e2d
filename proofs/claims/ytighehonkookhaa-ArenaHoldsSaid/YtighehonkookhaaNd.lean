/- Proves what the methods Take and Free of an arena return, and what they leave in memory. Conditions: as each theorem names them. -/
import Derived.Test.YtighehonkookhaaNc
import Derived.Deep.Cut
namespace Go.Proofs.Ytighehonkookhaa.Nd
open Go.RowKit Ap Mi Nm Nw Na Nb Rg Nc

/-- What Take leaves. -/
def takePost (F : Nat → Prop) (w : World) (g m G : Nat) (s : St) : Ending → World → Prop := fun e w' =>
  e = .returned (.tuple #[.agg #[.int .i64 (tkN m s), .int .i64 (tkG m s)], .int .i64 (tkE m s)]) ∧ Are (More F w) w' g m G (tkS m s) ∧ Only F w w'
theorem only_set {F : Nat → Prop} {w w' : World} {g : Nat} {i : Nat} {v : Value} (h : Only F w w') (hF : F g ∨ w.heap.size ≤ g) : Only F w (w'.setCell ⟨g, i, none⟩ v) := h.setCell (ad := ⟨g, i, none⟩) hF v
theorem more_of {F : Nat → Prop} {w w0 : World} (hz : w.heap.size ≤ w0.heap.size) : ∀ j, More (fun j => F j ∧ j < w.heap.size) w0 j → More F w j := fun j hj => by
  rcases hj with hj | hj
  · exact Or.inl hj.1
  · exact Or.inr (by omega)
theorem ints_get {l : List Nat} {k : Nat} {x : Nat} (h : l[k]? = some x) : (ints l)[k]? = some (.int .i64 (x : Int)) := by unfold ints; rw [List.getElem?_map, h]; rfl
/-- What taking the slot that was freed last finds, and what it leaves. -/
theorem take_facts {F : Nat → Prop} {w : World} {g m G : Nat} {s : St} (h : Are F w g m G s) {r : List Nat} {n : Nat} (hf : s.fr = r ++ [n]) :
    ∃ gA oA c gB oB d, Blk w g #[.int .i64 (m : Int), .slice (some ⟨gA, oA, none⟩) s.gens.length c, .slice (some ⟨gB, oB, none⟩) (r.length + 1) d] 50 ∧ gA < w.heap.size ∧ gB < w.heap.size ∧ gA ≠ g ∧ gB ≠ g ∧ gA ≠ gB ∧ F gA ∧ F gB ∧
      r.length + 1 ≤ d ∧ d ≤ maxLen ∧ n < s.gens.length ∧ w.cell? ⟨gB, oB + r.length, none⟩ = some (.int .i64 (n : Int)) ∧ w.cell? ⟨gA, oA + n * 2 + 1, none⟩ = some (.bool false) ∧ w.frozen? ⟨gA, oA + n * 2 + 1, none⟩ = false ∧
      Are F ((w.setCell ⟨g, 2, none⟩ (.slice (some ⟨gB, oB, none⟩) r.length d)).setCell ⟨gA, oA + n * 2 + 1, none⟩ (.bool true)) g m G ⟨s.gens, s.tk.set n true, r⟩ ∧
      Only F w ((w.setCell ⟨g, 2, none⟩ (.slice (some ⟨gB, oB, none⟩) r.length d)).setCell ⟨gA, oA + n * 2 + 1, none⟩ (.bool true)) := by
  have hn : n < s.gens.length := h.inv.lt (by rw [hf]; simp)
  have hfre := h.inv.fre n (by rw [hf]; simp)
  have hi := tk_inv h.inv (M := m) (G := G)
  obtain ⟨A, c, B, d, h1, h2, h3, h4, h5, h6, h7⟩ := h.has
  have htl := h.inv.tl
  obtain ⟨e0, e1⟩ := sl_get s.gens s.tk htl n hn
  obtain ⟨gA, oA, rfl, _, lA⟩ := mine_place h3 (by have := (List.getElem?_eq_some_iff.1 e0).1; omega)
  have eb : (ints s.fr)[r.length]? = some (.int .i64 (n : Int)) := ints_get (by rw [hf]; simp)
  obtain ⟨gB, oB, rfl, _, lB⟩ := mine_place h4 (by have := (List.getElem?_eq_some_iff.1 eb).1; omega)
  have hlen : s.fr.length = r.length + 1 := by rw [hf]; simp
  rw [hlen] at h1 h4
  have hA := h5 _ rfl; have hB := h6 _ rfl; have hAB := h7 _ _ rfl rfl
  simp only at hA hB hAB
  have hfr1 : (sl s.gens s.tk)[n * 2 + 1]? = some (.bool false) := by
    rw [e1]
    rw [List.getElem?_eq_getElem (by omega)] at hfre
    injection hfre with hfre
    rw [hfre]
  have cA := mine_cell h3 hfr1
  have hinv : Inv m G ⟨s.gens, s.tk.set n true, r⟩ := by
    by_cases hG : 1 ≤ G
    · have := hi hG
      rwa [(tk_old hf).1] at this
    · have h0 := tk_inv (h.inv.mono (show G ≤ G + 1 from by omega)) (M := m) (by omega)
      rw [(tk_old hf).1] at h0
      exact ⟨h0.tl, h0.le, h0.nd, h0.fre, h0.cnt, h.inv.gen⟩
  refine ⟨gA, oA, c, gB, oB, d, h1, lA, lB, hA.2, hB.2, hAB, hA.1, hB.1, h4.le, h4.max, hn, (mine_cell h4 eb).1, by rw [Nat.add_assoc]; exact cA.1, by rw [Nat.add_assoc]; exact cA.2, ⟨⟨some ⟨gA, oA, none⟩, c, some ⟨gB, oB, none⟩, d, ?_, h2, ?_, ?_, h5, h6, h7⟩, hinv, h.lo, h.hi⟩, ?_⟩
  · exact (h1.set 2 _).only (only_own (F := fun j => j = gA) rfl _) (fun e => hA.2 e.symm)
  · rw [Nat.add_assoc]
    exact mine_put (h3.only (only_own (F := fun j => j = g) rfl _) (fun a ha e => (h5 a ha).2 e)) (n * 2 + 1) _ (List.getElem?_eq_some_iff.1 hfr1).1 (sl_setT _ _ _ _ hn)
  · have hs := shrink h4 (show r.length ≤ r.length + 1 from by omega)
    have ht : (ints s.fr).take (r.length * 1) = ints r := by rw [hf]; unfold ints; simp
    rw [ht] at hs
    exact (hs.only (only_own (F := fun j => j = g) rfl _) (fun a ha e => (h6 a ha).2 e)).only (only_own (F := fun j => j = gA) rfl _) (fun a ha e => by injection ha with ha; subst ha; exact hAB e.symm)
  · exact ((Only.refl F w).put (ad := ⟨g, 2, none⟩) h2 _).put (ad := ⟨gA, oA + n * 2 + 1, none⟩) hA.1 _
set_option maxRecDepth 100000 in
set_option maxHeartbeats 1000000 in
theorem take_any {F : Nat → Prop} {w : World} {g m G : Nat} {s : St} (h : Are F w g m G s) (hG : 1 ≤ G) :
    Calls Try.prog 21 #[.pointer (some ⟨g, 0, none⟩)] w (takePost F w g m G s) := by
  have lg := h.lt
  obtain ⟨w0, hw0⟩ : ∃ w0, w0 = w.alloc (.cells #[.int .i64 0, .int .i64 0] 35) := ⟨_, rfl⟩
  have b0 : Below w.heap.size w w0 := by rw [hw0]; exact bnew _ _
  have r0 : Blk w0 w.heap.size #[.int .i64 0, .int .i64 0] 35 := by rw [hw0]; exact Blk.new _ _ _
  have h0 := h.tight.below b0 (Nat.le_refl _)
  have lz0 : w.heap.size < w0.heap.size := r0.lt
  have hg0 := h.inv.le; have hfr := h.inv.frl; have hhi := h.hi
  have HH := Lib.hid h; have H0 := Lib.hid h0; have R0 := Lib.hid r0; have B0 := Lib.hid b0
  have HU := Lib.hid (usable_any h0)
  obtain ⟨A, c, B, d, h1, _⟩ := h0.has
  obtain ⟨c0, c1, c2, _, _, _⟩ := h1.three
  clear h h0 r0 b0 h1
  unfold takePost
  have HIN : Hid (∀ (W : World) (e : Ending), (e = .returned (.tuple #[.agg #[.int .i64 (tkN m s), .int .i64 (tkG m s)], .int .i64 (tkE m s)]) ∧ Are (More (fun j => F j ∧ j < w.heap.size) w0) W g m G (tkS m s) ∧ Only (fun j => (F j ∧ j < w.heap.size) ∨ j = w.heap.size) w0 W) →
      e = .returned (.tuple #[.agg #[.int .i64 (tkN m s), .int .i64 (tkG m s)], .int .i64 (tkE m s)]) ∧ Are (More F w) W g m G (tkS m s) ∧ Only F w W) := fun W e ⟨e1, e2, e3⟩ =>
    ⟨e1, e2.mono (fun j _ hj => more_of (Nat.le_of_lt lz0) j hj), (Only.of_below B0.out (Nat.le_refl _) F).trans (e3.mono fun _ _ hf => by rcases hf with hf | hf; exact Or.inl hf.1; exact Or.inr (Nat.le_of_eq hf.symm))⟩
  rcases tk_ways m s with ⟨hf, hM⟩ | ⟨hf, hM⟩ | ⟨r, n, hf⟩
  case inl =>
    obtain ⟨t1, t2, t3, t4⟩ := tk_full hf hM
    rw [t1, t2, t3, t4]
    rw [hf] at c2
    rw [hM] at c1
    clear HIN t1 t2 t3 t4 hf hM
    go_enter Try.func21, Try.ntmps21
    go_wp2_with fail
    rw [← hw0]
    clear hw0
    refine HU.out.mono ?_
    rintro e w1 ⟨rfl, rfl⟩
    go_wp2_with fail
    obtain ⟨e0, e1, ef0, ef1⟩ := R0.out.two
    go_quiet (fail)
    go_wp2_with fail
    refine bodyPost_ret (v := .tuple #[.agg #[.int .i64 0, .int .i64 0], .int .i64 7]) (by simp [results, Try.results21, go_sem, e0, e1]) rfl ⟨rfl, ?_, ?_⟩
    · exact ((H0.out.drewN nq).only ((only_own (F := fun j => j = w.heap.size) (i := 0) rfl (.int .i64 0)).trans ((only_own (F := fun j => j = w.heap.size) (i := 1) rfl (.int .i64 0)).mono fun _ _ h => Or.inl h)) (fun j hj e => by have := hj.2; omega)).mono (fun j _ hj => Or.inl hj.1)
    · exact only_set (only_set ((Only.of_below B0.out (Nat.le_refl _) F).drewN nq) (Or.inr (Nat.le_refl _))) (Or.inr (Nat.le_refl _))
  case' inr.inl =>
    obtain ⟨t1, t2, t3, t4⟩ := tk_new hf hM
    rw [t1, t2, t3, t4] at HIN ⊢
    have HMK := Lib.hid fun nq => make_any (H0.out.drewN nq) (by omega) hG
    have hM' : ((s.gens.length : Int) == (m : Int)) = false := by rw [beq_eq_false_iff_ne]; omega
    have htl := H0.out.inv.tl
    rw [hf] at c2
    obtain ⟨s1, hs1⟩ : ∃ s1 : St, s1 = ⟨s.gens ++ [1], s.tk ++ [false], s.fr ++ [s.gens.length]⟩ := ⟨_, rfl⟩
    obtain ⟨n, hn⟩ : ∃ n, n = s.gens.length := ⟨_, rfl⟩
    obtain ⟨r, hr⟩ : ∃ r : List Nat, r = [] := ⟨_, rfl⟩
    have HR : Hid (s1.fr = r ++ [n]) := by show _ = _; rw [hs1, hr, hn, hf]
    have e1 : (⟨s.gens ++ [1], s.tk ++ [true], []⟩ : St) = ⟨s1.gens, s1.tk.set n true, r⟩ := by
      rw [hs1, hr, hn]
      refine st_eq rfl ?_ rfl
      show _ = (s.tk ++ [false]).set s.gens.length true
      rw [← htl, List.set_append_right _ _ (Nat.le_refl _), Nat.sub_self]; rfl
    have e2 : (1 : Int) = (genAt s1 (n : Int) : Int) := by
      rw [hs1, hn]; unfold genAt; simp
    rw [e1, ← hn, e2] at HIN
    rw [e1, ← hn, e2]
    have HS1 := Lib.hid hs1
    clear t1 t2 t3 t4 hf e1 e2 hr hs1 htl hn
    go_enter Try.func21, Try.ntmps21
    go_wp2_with fail
    rw [← hw0]
    clear hw0
    refine HU.out.mono ?_
    rintro e w1 ⟨rfl, rfl⟩
    go_wp2_with fail
    go_quiet (fail)
    go_wp2_with fail
    refine (HMK.out _).mono ?_
    rintro e v1 ⟨rfl, ha, ho⟩
    have HA1 : Hid (Are (More (fun j => F j ∧ j < w.heap.size) w0) v1 g m G s1) := by rw [HS1.out]; exact ha
    have HO1 : Hid (Only (fun j => F j ∧ j < w.heap.size) w0 v1) := ((Only.refl _ w0).drewN nq).trans (ho.mono fun _ _ hf => Or.inl hf)
    have R1 : Hid (Blk v1 w.heap.size #[.int .i64 0, .int .i64 0] 35) := R0.out.only HO1.out (fun hf => by have := hf.2; omega)
    clear ha ho c0 c1 c2 hM hM' HMK hg0 hfr
    go_upto_region 7 with (fail)
  case' inr.inr =>
    obtain ⟨t1, t2, t3, t4⟩ := tk_old (M := m) hf
    rw [t1, t2, t3, t4] at HIN ⊢
    obtain ⟨s1, hs1⟩ : ∃ s1 : St, s1 = s := ⟨_, rfl⟩
    have HS1 := Lib.hid hs1
    rw [← hs1] at hf HIN hg0 hfr H0 c1 c2 ⊢
    have HR : Hid (s1.fr = r ++ [n]) := hf
    have hfl : (s1.fr.length : Int) ≠ 0 := by rw [hf]; simp; omega
    have hfl' : ((s1.fr.length : Int) == 0) = false := by rw [beq_eq_false_iff_ne]; exact hfl
    obtain ⟨v1, hv1⟩ : ∃ v1, v1 = w0 := ⟨_, rfl⟩
    rw [← hv1] at HU hw0
    rw [← hv1] at c0 c1 c2
    have HA1 : Hid (Are (More (fun j => F j ∧ j < w.heap.size) w0) v1 g m G s1) := by rw [hv1]; exact H0.out.mono (fun _ _ hj => Or.inl hj)
    have HO1 : Hid (Only (fun j => F j ∧ j < w.heap.size) w0 v1) := by rw [hv1]; exact Only.refl _ _
    have R1 : Hid (Blk v1 w.heap.size #[.int .i64 0, .int .i64 0] 35) := by rw [hv1]; exact R0.out
    clear t1 t2 t3 t4 hs1 hv1 hf hfl
    go_enter Try.func21, Try.ntmps21
    go_wp2_with fail
    rw [← hw0]
    clear hw0
    refine HU.out.mono ?_
    rintro e w1 ⟨rfl, rfl⟩
    go_upto_region 7 with (fail)
    clear c0 c1 c2 hg0 hfr hfl'
  all_goals
    obtain ⟨gA, oA, cA, gB, oB, dB, k1, k2, k3, k4, k5, k6, kF, _, k7, k8, k9, k10, k11, k12, k13, k14⟩ := take_facts HA1.out HR.out
    obtain ⟨c0, c1, c2, f0, f1, f2⟩ := k1.three
    obtain ⟨e0, e1, ef0, ef1⟩ := R1.out.two
    have hle := HA1.out.inv.le
    have lv := HO1.out.size
    unfold maxLen at k8
    have i1 : (n : Int) < (s1.gens.length : Int) := by omega
    have i2 : (r.length : Int) < (r.length : Int) + 1 := by omega
    have n1 : ¬ gA = w.heap.size := fun e => by rcases kF with hf | hf; exact absurd hf.2 (by omega); omega
    have n2 : ¬ w.heap.size = gA := fun e => n1 e.symm
    have n3 : ¬ g = gA := fun e => k4 e.symm
    have n4 : ¬ g = w.heap.size := by omega
    have n5 : ¬ w.heap.size = g := by omega
    clear kF
    have K13 := Lib.hid k13; have K14 := Lib.hid k14
    clear k1 k13 k14
    go_wp2_with fail
    refine (ref_any K13.out n k9).mono ?_
    rintro e w3 ⟨rfl, hb⟩
    have HB := Lib.hid hb
    have hz3 := hb.size
    have hx2 : genAt ⟨s1.gens, s1.tk.set n true, r⟩ (n : Int) = genAt s1 (n : Int) := rfl
    rw [hx2]
    have b3 : Blk w3 w.heap.size #[.int .i64 0, .int .i64 0] 35 := (R1.out.only (F := fun j => j = g ∨ j = gA) (((Only.refl (fun j => j = g ∨ j = gA) v1).put (ad := ⟨g, 2, none⟩) (Or.inl rfl) _).put (ad := ⟨gA, oA + n * 2 + 1, none⟩) (Or.inr rfl) _) (fun e => by rcases e with e | e; exact n5 e; exact n2 e)).below hb (by simp; omega)
    obtain ⟨d0, d1, df0, df1⟩ := b3.two
    clear hb hx2 b3
    go_wp2_with fail
    refine bodyPost_ret (v := .tuple #[.agg #[.int .i64 (n : Int), .int .i64 (genAt s1 (n : Int) : Int)], .int .i64 0]) (by simp [results, Try.results21, go_sem, d0, d1]) rfl (HIN.out _ _ ⟨rfl, ?_, ?_⟩)
    · exact (K13.out.below HB.out (Nat.le_refl _)).only ((only_own (F := fun j => j = w.heap.size) rfl _).trans ((only_own (F := fun j => j = w.heap.size) rfl _).mono fun _ _ h => Or.inl h)) (fun j hj e => by rcases hj with hj | hj; have := hj.2; omega; omega)
    · refine only_set (only_set (((HO1.out.mono fun _ _ hf => Or.inl hf).trans (K14.out.mono fun j _ hf => ?_)).trans (Only.of_below HB.out (Nat.le_refl _) _)) (Or.inl (Or.inr rfl))) (Or.inl (Or.inr rfl))
      rcases hf with hf | hf
      · exact Or.inl (Or.inl hf)
      · exact Or.inr hf
end Go.Proofs.Ytighehonkookhaa.Nd
