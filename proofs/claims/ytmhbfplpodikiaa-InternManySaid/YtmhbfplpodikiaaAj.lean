/- Proves that a table that looks like the document's is told so. Conditions: as each theorem names them. -/
import Derived.Test.YtmhbfplpodikiaaAh
import Derived.Test.YtmhbfplpodikiaaAi
import Derived.Deep.RegionHeld3
namespace Go.Proofs.Ytmhbfplpodikiaa.Aj
open Go.RowKit Ap Mi Nw Rg Aa Ab Ac Ad Ag Ah Ai

set_option maxRecDepth 100000 in
theorem strings_true {w : World} {A B : Option Addr} {c d n m : Nat} {l : List ByteArray} (hn : l.length = n) (hm : l.length = m) (h1 : Rs w 1 A n c (strs l)) (h2 : Rs w 1 B m d (strs l)) :
    Calls Try.prog 28 #[.slice A n c, .slice B m d] w (boolTo true w) := by
  subst hn; subst hm
  have hc1 := Rs.max h1
  have hc2 := Rs.max h2
  have hl1 := Rs.le h1
  unfold maxLen at hc1 hc2
  have hee : (l.length == l.length) = true := by simp
  have hee2 : ((l.length : Int) == (l.length : Int)) = true := by simp
  have HA : Hid (∀ K (h : K < l.length), ∃ b o, A = some ⟨b, o, none⟩ ∧ b < w.heap.size ∧ w.cell? ⟨b, o + K, none⟩ = some (.string l[K])) := fun K h => Rs_str h1 h
  have HC : Hid (∀ K (h : K < l.length), ∃ b o, B = some ⟨b, o, none⟩ ∧ b < w.heap.size ∧ w.cell? ⟨b, o + K, none⟩ = some (.string l[K])) := fun K h => Rs_str h2 h
  unfold boolTo
  clear h1 h2
  go_enter Try.func28, Try.ntmps28
  go_wp2_with fail
  go_loopw [5] (fun i wr => ∃ K : Nat, K ≤ l.length ∧ i = .int .i64 (K : Int) ∧ ∃ n, wr = w.drewN n) (fun i _ => l.length - (intOf i).toNat)
  case atStart => exact ⟨0, Nat.zero_le _, rfl, 0, rfl⟩
  case round =>
    obtain ⟨K, hK, rfl, nq0, rfl⟩ := hrel
    by_cases hlt : K < l.length
    · have j1 : (K : Int) < (l.length : Int) := by omega
      obtain ⟨b, o, rfl, lb, a0⟩ := HA.out K hlt
      obtain ⟨b2, o2, rfl, lb2, a2⟩ := HC.out K hlt
      obtain ⟨t, ht⟩ : ∃ t, t = l[K] := ⟨_, rfl⟩
      rw [← ht] at a0 a2
      have het := str_yes (rfl : t = t)
      have het2 : (!(t.toList == t.toList)) = false := by rw [het]; rfl
      clear ht
      go_wp2_with fail
      go_quiet (fail)
      go_wp2_with fail
      go_roundw
      case rel => exact ⟨K + 1, by omega, by go_num, by first | exact ⟨_, rfl⟩ | exact ⟨_, by rw [World.drewN_drewN]⟩⟩
      case measure => simp [intOf]; omega
    · obtain rfl : K = l.length := by omega
      have hnn : ¬ (l.length : Int) < l.length := by omega
      clear hlt
      go_wp2_with fail
      go_ret
      exact ⟨rfl, below_drewN (Below.refl _ _) _⟩
/-- The table, the document's list, and its box. -/
structure Is (F G : Nat → Prop) (w0 : World) (C g : Nat) (m : Int) (A : Option Addr) (c : Nat) (l : List Nr) (v : World) : Prop where
  st : St F v g m l
  rt : RT G v A c l
  k : Blk v C #[.int .i64 m, .slice A l.length c] 31
  b : Below w0.heap.size w0 v
theorem Is.below {F G : Nat → Prop} {w0 : World} {C g : Nat} {m : Int} {A : Option Addr} {c : Nat} {l : List Nr} {v u : World} (h : Is F G w0 C g m A c l v) (hb : Below v.heap.size v u) : Is F G w0 C g m A c l u :=
  ⟨h.st.below hb, h.rt.below hb (Nat.le_refl _), h.k.below hb h.k.lt, h.b.trans (hb.mono h.b.size)⟩
theorem has_vals {l : List Nr} (hv : Iv l) {i : Nat} (hi : i < l.length) (hr : 0 < l[i].r) : nameV l (i : Int) = l[i].k ∧ nameE l (i : Int) = 0 ∧ refsV l (i : Int) = l[i].r ∧ findV l l[i].k = (i : Int) ∧ findE l l[i].k = 0 := by
  have hh := (has_nat hi).2 hr
  have hg : l.getD (i : Int).toNat zeroN = l[i] := by rw [Int.toNat_natCast, List.getD_eq_getElem?_getD, List.getElem?_eq_getElem hi]; rfl
  have hk := hv.ok _ (List.getElem_mem hi) hr
  refine ⟨by unfold nameV; rw [if_pos hh, hg], by unfold nameE; rw [if_pos hh], by unfold refsV; rw [if_pos hh, hg], ?_, ?_⟩
  · unfold findV; rw [if_neg (by simp [hk]), fnd_own hv hi hr]
  · unfold findE; rw [if_neg (by simp [hk]), fnd_own hv hi hr]
theorem no_vals {l : List Nr} {n : Int} (h : ¬ has l n) : nameV l n = ⟨#[]⟩ ∧ nameE l n = 9 ∧ refsV l n = 0 :=
  ⟨by unfold nameV; rw [if_neg h], by unfold nameE; rw [if_neg h], by unfold refsV; rw [if_neg h]⟩
section
variable {F G : Nat → Prop} {w : World} {g : Nat} {m : Int} {l : List Nr} {A : Option Addr} {c : Nat}
set_option maxRecDepth 100000 in
set_option maxHeartbeats 4000000 in
theorem is_true (h : St F w g m l) (hr : RT G w A c l) (hv : Iv l) (hl : l.length ≤ 100000) (s : ByteArray) (hs : s.size ≤ 1000000) (n : Int) :
    Calls Try.prog 11 #[.pointer (some ⟨g, 0, none⟩), tbV m A l.length c, .string s, .int .i64 n] w (boolTo true w) := by
  obtain ⟨v0, hv0⟩ : ∃ v0, v0 = w.alloc (.cells (tbA m A l.length c) 31) := ⟨_, rfl⟩
  have hb0 : Below w.heap.size w v0 := by rw [hv0]; exact bnew _ _
  have HS0 : Hid (Is F G w w.heap.size g m A c l v0) := by
    have hk : Blk v0 w.heap.size (tbA m A l.length c) 31 := by rw [hv0]; exact Blk.new _ _ _
    exact ⟨h.below hb0, hr.below hb0 (Nat.le_refl _), hk, hb0⟩
  have HCW : Hid (∀ v, Below w.heap.size w v → Below w.heap.size w v) := fun _ h => h
  obtain ⟨C, hC⟩ : ∃ C, C = w.heap.size := ⟨_, rfl⟩
  rw [← hC] at HS0
  have hcm := Rs.max hr.r
  have hcl := Rs.le hr.r
  unfold maxLen at hcm
  have HV := Lib.hid hv
  have hnl : (namesL l).length ≤ 100000 := by rw [namesL_len]; exact Nat.le_trans (cnt_le l) hl
  unfold tbA at hv0
  unfold boolTo tbV
  obtain ⟨x0, x1, xf0, xf1⟩ := HS0.out.k.two
  have lg := HS0.out.k.lt
  clear h hr hv hb0
  go_enter Try.func11, Try.ntmps11
  go_upto_region 1 with fail
  rw [← hv0, ← hC]
  clear hv0 hC
  have X0 : ∀ v, Below v0.heap.size v0 v → v.cell? ⟨C, 0, none⟩ = some (.int .i64 m) := fun v hv => (hv.cell lg).trans x0
  have X1 : ∀ v, Below v0.heap.size v0 v → v.cell? ⟨C, 1, none⟩ = some (.slice A l.length c) := fun v hv => (hv.cell lg).trans x1
  have D1 : Below v0.heap.size v0 v0.drew := (Below.refl _ _).drew
  have HLEN : Hid (∀ v, Below v0.heap.size v0 v → Calls Try.prog 30 #[.agg #[.int .i64 m, .slice A l.length c]] v (vPost v (.int .i64 (cnt l : Int)))) := fun v hv => len_any m (HS0.out.rt.below hv (Nat.le_refl _)) (by omega)
  have HLS : Hid (∀ v, Below v0.heap.size v0 v → Calls Try.prog 21 #[.pointer (some ⟨g, 0, none⟩), .int .i64 (cnt l : Int), .int .i64 m] v (boolTo true v)) := fun v hv => lens_true (HS0.out.st.below hv) rfl
  have HN1 : Hid (∀ v, Below v0.heap.size v0 v → Calls Try.prog 25 #[.pointer (some ⟨g, 0, none⟩)] v (fun q w' => ∃ A c, q = .returned (.slice A (namesL l).length c) ∧ Rs w' 1 A (namesL l).length c (strs (namesL l)) ∧ Below v.heap.size v w')) := fun v hv => names_st (HS0.out.st.below hv)
  have HN2 : Hid (∀ v, Below v0.heap.size v0 v → Calls Try.prog 31 #[.agg #[.int .i64 m, .slice A l.length c]] v (rowPost v (namesL l))) := fun v hv => names_any m (HS0.out.rt.below hv (Nat.le_refl _)) hl
  unfold vPost at HLEN
  unfold boolTo at HLS
  unfold rowPost at HN2
  obtain ⟨nn, hnn⟩ : ∃ nn, nn = namesL l := ⟨_, rfl⟩
  rw [← hnn] at HN1 HN2 hnl
  clear hnn
  refine wp_region_noPanic ?_
  refine wp_region_held_drew (S := fun v => Below v0.heap.size v0 v) (by kernel_rfl) (D1) (fun hHeld => ?_)
  refine wpAnyH_take (i := 0) (oi := ⟨some 10, _, _, _, _, _⟩) (v := ?_) rfl (by kernel_rfl) (by kernel_rfl) (by kernel_rfl) (fun _ _ _ h => h) (Or.inl ⟨by rfl, ?_⟩) (by assumption) ?_
  rotate_left
  · intro w hSw; go_simp; first | done | with_reducible rfl
  try simp only [Act.put, List.setIfInBounds_toArray, List.set_cons_zero, List.set_cons_succ]
  refine wpAnyH_take (i := 1) (oi := ⟨some 11, _, _, _, _, _⟩) (v := ?_) rfl (by kernel_rfl) (by kernel_rfl) (by kernel_rfl) (fun _ _ _ h => h) (Or.inl ⟨by rfl, ?_⟩) (by assumption) ?_
  rotate_left
  · intro w hSw; go_simp; first | done | with_reducible rfl
  try simp only [Act.put, List.setIfInBounds_toArray, List.set_cons_zero, List.set_cons_succ]
  refine wpAnyH_take (i := 3) (oi := ⟨some 13, _, _, _, _, _⟩) (v := ?_) rfl (by kernel_rfl) (by kernel_rfl) (by kernel_rfl) (fun _ _ _ h => h) (Or.inl ⟨by rfl, ?_⟩) (by assumption) ?_
  rotate_left
  · intro w hSw; go_simp; first | done | with_reducible rfl
  try simp only [Act.put, List.setIfInBounds_toArray, List.set_cons_zero, List.set_cons_succ]
  refine wpAnyH_take (i := 4) (oi := ⟨some 14, _, _, _, _, _⟩) (v := ?_) rfl (by kernel_rfl) (by kernel_rfl) (by kernel_rfl) (fun _ _ _ h => h) (Or.inl ⟨by rfl, ?_⟩) (by assumption) ?_
  rotate_left
  · intro w hSw; go_simp; first | done | with_reducible rfl
  try simp only [Act.put, List.setIfInBounds_toArray, List.set_cons_zero, List.set_cons_succ]
  refine wpAnyH_ready (rs := [2]) (by kernel_rfl) (by simp) ?_
  refine AllReadyH.cons (o := ⟨some 12, _, _, _, _, _⟩) rfl (fun K hK => ?_) AllReadyH.nil
  go_simp
  refine (HLEN.out _ hHeld).mono ?_
  rintro q u1 ⟨rfl, hb⟩
  have K1 : Below v0.heap.size v0 u1 := hHeld.trans (hb.mono hHeld.size)
  clear hb
  go_simp
  refine hK.out _ _ (K1) (fun hHeld => ?_)
  clear hK K
  try simp only [Act.put, List.setIfInBounds_toArray, List.set_cons_zero, List.set_cons_succ]
  refine wpAnyH_ready (rs := [5]) (by kernel_rfl) (by simp) ?_
  refine AllReadyH.cons (o := ⟨some 15, _, _, _, _, _⟩) rfl (fun K hK => ?_) AllReadyH.nil
  go_simp
  refine (HLS.out _ hHeld).mono ?_
  rintro q u2 ⟨rfl, hb⟩
  have K2 : Below v0.heap.size v0 u2 := hHeld.trans (hb.mono hHeld.size)
  clear hb
  go_simp
  refine hK.out _ _ (K2) (fun hHeld => ?_)
  clear hK K
  try simp only [Act.put, List.setIfInBounds_toArray, List.set_cons_zero, List.set_cons_succ]
  refine wpAnyH_take (i := 6) (oi := ⟨some 16, _, _, _, _, _⟩) (v := ?_) rfl (by kernel_rfl) (by kernel_rfl) (by kernel_rfl) (fun _ _ _ h => h) (Or.inl ⟨by rfl, ?_⟩) (by assumption) ?_
  rotate_left
  · intro w hSw; go_simp; first | done | with_reducible rfl
  try simp only [Act.put, List.setIfInBounds_toArray, List.set_cons_zero, List.set_cons_succ]
  refine wpAnyH_take (i := 7) (oi := ⟨some 17, _, _, _, _, _⟩) (v := ?_) rfl (by kernel_rfl) (by kernel_rfl) (by kernel_rfl) (fun _ _ _ h => h) (Or.inl ⟨by rfl, ?_⟩) (by assumption) ?_
  rotate_left
  · intro w hSw; go_simp; first | done | with_reducible rfl
  try simp only [Act.put, List.setIfInBounds_toArray, List.set_cons_zero, List.set_cons_succ]
  refine wpAnyH_take (i := 8) (oi := ⟨some 18, _, _, _, _, _⟩) (v := ?_) rfl (by kernel_rfl) (by kernel_rfl) (by kernel_rfl) (fun _ _ _ h => h) (Or.inl ⟨by rfl, ?_⟩) (by assumption) ?_
  rotate_left
  · intro w hSw; go_simp; first | done | with_reducible rfl
  try simp only [Act.put, List.setIfInBounds_toArray, List.set_cons_zero, List.set_cons_succ]
  refine wpAnyH_take (i := 10) (oi := ⟨some 20, _, _, _, _, _⟩) (v := ?_) rfl (by kernel_rfl) (by kernel_rfl) (by kernel_rfl) (fun _ _ _ h => h) (Or.inl ⟨by rfl, ?_⟩) (by assumption) ?_
  rotate_left
  · intro w hSw; go_simp; first | done | with_reducible rfl
  try simp only [Act.put, List.setIfInBounds_toArray, List.set_cons_zero, List.set_cons_succ]
  refine wpAnyH_ready (rs := [9]) (by kernel_rfl) (by simp) ?_
  refine AllReadyH.cons (o := ⟨some 19, _, _, _, _, _⟩) rfl (fun K hK => ?_) AllReadyH.nil
  go_simp
  refine (HN1.out _ hHeld).mono ?_
  rintro q u3 ⟨A9, c9, rfl, r9, hb⟩
  have K3 : Below v0.heap.size v0 u3 := hHeld.trans (hb.mono hHeld.size)
  have R9 := Lib.hid r9
  clear r9
  clear hb
  go_simp
  refine hK.out _ _ (K3) (fun hHeld => ?_)
  clear hK K
  try simp only [Act.put, List.setIfInBounds_toArray, List.set_cons_zero, List.set_cons_succ]
  refine wpAnyH_ready (rs := [11]) (by kernel_rfl) (by simp) ?_
  refine AllReadyH.cons (o := ⟨some 21, _, _, _, _, _⟩) rfl (fun K hK => ?_) AllReadyH.nil
  go_simp
  refine (HN2.out _ hHeld).mono ?_
  rintro q u4 ⟨A11, c11, rfl, r11, hb⟩
  have K4 : Below v0.heap.size v0 u4 := hHeld.trans (hb.mono hHeld.size)
  have R11 := Lib.hid (Rs.mine r11)
  clear r11
  have R9b := Lib.hid (R9.out.below hb (Nat.le_refl _))
  clear R9
  have R9 := R9b
  clear R9b
  clear hb
  go_simp
  refine hK.out _ _ (K4) (fun hHeld => ?_)
  clear hK K
  try simp only [Act.put, List.setIfInBounds_toArray, List.set_cons_zero, List.set_cons_succ]
  refine wpAnyH_ready (rs := [12]) (by kernel_rfl) (by simp) ?_
  refine AllReadyH.cons (o := ⟨some 22, _, _, _, _, _⟩) rfl (fun K hK => ?_) AllReadyH.nil
  go_simp
  refine (strings_true rfl rfl R9.out R11.out).mono ?_
  rintro q u5 ⟨rfl, hb⟩
  have K5 : Below v0.heap.size v0 u5 := hHeld.trans (hb.mono hHeld.size)
  clear hb
  go_simp
  refine hK.out _ _ (K5) (fun hHeld => ?_)
  clear hK K
  try simp only [Act.put, List.setIfInBounds_toArray, List.set_cons_zero, List.set_cons_succ]
  refine wpAnyH_take (i := 13) (oi := ⟨some 23, _, _, _, _, _⟩) (v := ?_) rfl (by kernel_rfl) (by kernel_rfl) (by kernel_rfl) (fun _ _ _ h => h) (Or.inl ⟨by rfl, ?_⟩) (by assumption) ?_
  rotate_left
  · intro w hSw; go_simp; first | done | with_reducible rfl
  try simp only [Act.put, List.setIfInBounds_toArray, List.set_cons_zero, List.set_cons_succ]
  refine wpAnyH_take (i := 14) (oi := ⟨some 24, _, _, _, _, _⟩) (v := ?_) rfl (by kernel_rfl) (by kernel_rfl) (by kernel_rfl) (fun _ _ _ h => h) (Or.inl ⟨by rfl, ?_⟩) (by assumption) ?_
  rotate_left
  · intro w hSw; go_simp; first | done | with_reducible rfl
  try simp only [Act.put, List.setIfInBounds_toArray, List.set_cons_zero, List.set_cons_succ]
  refine wpAnyH_done (by kernel_rfl) ?_ _
  refine NoPanic.normal ?_
  first | refine NoPanic.normal ?_ | skip
  have HS1 := Lib.hid (HS0.out.below hHeld)
  clear hHeld X0 X1 D1 HLEN HLS HN1 HN2 R9 R11 x0 x1 xf0 xf1 lg
  obtain ⟨x0, x1, xf0, xf1⟩ := HS1.out.k.two
  have lg := HS1.out.k.lt
  go_wp2_with fail
  go_loopw [9] (fun i wr => ∃ k : Nat, k ≤ l.length + 1 ∧ i = .int .i64 (k : Int) ∧ Is F G w C g m A c l wr) (fun i _ => l.length + 1 - (intOf i).toNat)
  case atStart => exact ⟨0, Nat.zero_le _, rfl, HS1.out⟩
  case round =>
    obtain ⟨k, hk, rfl, hIs⟩ := hrel
    have HS2 := Lib.hid hIs
    clear hIs x0 x1 xf0 xf1 lg
    obtain ⟨x0, x1, xf0, xf1⟩ := HS2.out.k.two
    have lg := HS2.out.k.lt
    by_cases hlt : k ≤ l.length
    · have j1 : (k : Int) ≤ (l.length : Int) := by omega
      by_cases hh : has l (k : Int)
      · have hkl : k < l.length := by have := hh.2.1; omega
        have hr := (has_nat hkl).1 hh
        obtain ⟨e1, e2, e3, e4, e5⟩ := has_vals HV.out hkl hr
        have HH0 := Lib.hid hh
        obtain ⟨y, hy⟩ : ∃ y, y = l[k] := ⟨_, rfl⟩
        have hy2 := hy.symm
        rw [hy2] at e1 e3 e4 e5
        have j2 : (k : Int) < (l.length : Int) := by omega
        have hys : y.k.size ≤ 1000000 := by have := (HV.out.ok _ (List.getElem_mem hkl) hr).2; rw [hy]; omega
        have E := Lib.hid (And.intro e1 (And.intro e2 (And.intro e3 (And.intro e4 e5))))
        have HAT : Hid (∀ v, Is F G w C g m A c l v → ∃ b o, A = some ⟨b, o, none⟩ ∧ b < v.heap.size ∧ v.cell? ⟨b, o + k * 2, none⟩ = some (.string y.k) ∧ v.cell? ⟨b, o + k * 2 + 1, none⟩ = some (.int .i64 y.r)) := fun v hv => by rw [hy]; exact hv.rt.at_ hkl
        clear e1 e2 e3 e4 e5 hy hy2
        have HH := Lib.hid (has_any m (k : Int) HS2.out.rt)
        unfold tbV vPost at HH
        rw [decide_eq_true hh] at HH
        go_wp2_with fail
        refine (HH.out).mono ?_
        rintro q u3 ⟨rfl, hb⟩
        have HS3 := Lib.hid (HS2.out.below hb)
        clear hb x0 x1 xf0 xf1 lg
        obtain ⟨x0, x1, xf0, xf1⟩ := HS3.out.k.two
        have lg := HS3.out.k.lt
        clear HH
        obtain ⟨ab, ao, rfl, lab, a0, a1⟩ := HAT.out _ HS3.out
        have HH := Lib.hid (names_true HS3.out.st (k : Int) E.out.1 E.out.2.1)
        unfold boolTo at HH
        go_wp2_with fail
        refine (HH.out).mono ?_
        rintro q u4 ⟨rfl, hb⟩
        have HS4 := Lib.hid (HS3.out.below hb)
        clear hb x0 x1 xf0 xf1 lg
        obtain ⟨x0, x1, xf0, xf1⟩ := HS4.out.k.two
        have lg := HS4.out.k.lt
        clear HH
        clear a0 a1 lab
        obtain ⟨ab2, ao2, ea, lab, a0, a1⟩ := HAT.out _ HS4.out
        injection ea with ea; injection ea with ea1 ea2; subst ea1; subst ea2
        have HH := Lib.hid (refs_true HS4.out.st (k : Int) E.out.2.2.1 E.out.2.1)
        unfold boolTo at HH
        go_wp2_with fail
        refine (HH.out).mono ?_
        rintro q u5 ⟨rfl, hb⟩
        have HS5 := Lib.hid (HS4.out.below hb)
        clear hb x0 x1 xf0 xf1 lg
        obtain ⟨x0, x1, xf0, xf1⟩ := HS5.out.k.two
        have lg := HS5.out.k.lt
        clear HH
        clear a0 a1 lab
        obtain ⟨ab2, ao2, ea, lab, a0, a1⟩ := HAT.out _ HS5.out
        injection ea with ea; injection ea with ea1 ea2; subst ea1; subst ea2
        have HH := Lib.hid (finds_true HS5.out.st y.k hys E.out.2.2.2.1 E.out.2.2.2.2)
        unfold boolTo at HH
        go_wp2_with fail
        refine (HH.out).mono ?_
        rintro q u6 ⟨rfl, hb⟩
        have HS6 := Lib.hid (HS5.out.below hb)
        clear hb x0 x1 xf0 xf1 lg
        obtain ⟨x0, x1, xf0, xf1⟩ := HS6.out.k.two
        have lg := HS6.out.k.lt
        clear HH
        clear a0 a1 lab
        obtain ⟨ab2, ao2, ea, lab, a0, a1⟩ := HAT.out _ HS6.out
        injection ea with ea; injection ea with ea1 ea2; subst ea1; subst ea2
        have hh := HH0.out
        have HH := Lib.hid (has_any m (k : Int) HS6.out.rt)
        unfold tbV vPost at HH
        rw [decide_eq_true hh] at HH
        go_wp2_with fail
        refine (HH.out).mono ?_
        rintro q u7 ⟨rfl, hb⟩
        have HS7 := Lib.hid (HS6.out.below hb)
        clear hb x0 x1 xf0 xf1 lg
        obtain ⟨x0, x1, xf0, xf1⟩ := HS7.out.k.two
        have lg := HS7.out.k.lt
        clear HH
        go_wp2_with fail
        go_roundw
        case rel => exact ⟨k + 1, by omega, by simp, HS7.out⟩
        case measure => simp [intOf]; omega
      · obtain ⟨e1, e2, e3⟩ := no_vals hh
        have HH0 := Lib.hid hh
        have E := Lib.hid (And.intro e1 (And.intro e2 e3))
        clear e1 e2 e3
        have HH := Lib.hid (has_any m (k : Int) HS2.out.rt)
        unfold tbV vPost at HH
        rw [decide_eq_false hh] at HH
        go_wp2_with fail
        refine (HH.out).mono ?_
        rintro q u3 ⟨rfl, hb⟩
        have HS3 := Lib.hid (HS2.out.below hb)
        clear hb x0 x1 xf0 xf1 lg
        obtain ⟨x0, x1, xf0, xf1⟩ := HS3.out.k.two
        have lg := HS3.out.k.lt
        clear HH
        have hh := HH0.out
        have HH := Lib.hid (has_any m (k : Int) HS3.out.rt)
        unfold tbV vPost at HH
        rw [decide_eq_false hh] at HH
        go_wp2_with fail
        refine (HH.out).mono ?_
        rintro q u4 ⟨rfl, hb⟩
        have HS4 := Lib.hid (HS3.out.below hb)
        clear hb x0 x1 xf0 xf1 lg
        obtain ⟨x0, x1, xf0, xf1⟩ := HS4.out.k.two
        have lg := HS4.out.k.lt
        clear HH
        have HH := Lib.hid (names_true HS4.out.st (k : Int) E.out.1 E.out.2.1)
        unfold boolTo at HH
        go_wp2_with fail
        refine (HH.out).mono ?_
        rintro q u5 ⟨rfl, hb⟩
        have HS5 := Lib.hid (HS4.out.below hb)
        clear hb x0 x1 xf0 xf1 lg
        obtain ⟨x0, x1, xf0, xf1⟩ := HS5.out.k.two
        have lg := HS5.out.k.lt
        clear HH
        have HH := Lib.hid (refs_true HS5.out.st (k : Int) E.out.2.2 E.out.2.1)
        unfold boolTo at HH
        go_wp2_with fail
        refine (HH.out).mono ?_
        rintro q u6 ⟨rfl, hb⟩
        have HS6 := Lib.hid (HS5.out.below hb)
        clear hb x0 x1 xf0 xf1 lg
        obtain ⟨x0, x1, xf0, xf1⟩ := HS6.out.k.two
        have lg := HS6.out.k.lt
        clear HH
        go_wp2_with fail
        go_roundw
        case rel => exact ⟨k + 1, by omega, by simp, HS6.out⟩
        case measure => simp [intOf]; omega
    · have j1 : ¬ (k : Int) ≤ (l.length : Int) := by omega
      clear hlt
      by_cases hh : has l n
      · have HH := Lib.hid (has_any m n HS2.out.rt)
        unfold tbV vPost at HH
        rw [decide_eq_true hh] at HH
        go_wp2_with fail
        refine (HH.out).mono ?_
        rintro q u3 ⟨rfl, hb⟩
        have HS3 := Lib.hid (HS2.out.below hb)
        clear hb x0 x1 xf0 xf1 lg
        obtain ⟨x0, x1, xf0, xf1⟩ := HS3.out.k.two
        have lg := HS3.out.k.lt
        clear HH
        have HVD := Lib.hid (valid_any s u3)
        by_cases hok : okN s
        · rw [decide_eq_true hok] at HVD
          have HOK := Lib.hid hok
          clear hok
          go_wp2_with fail
          refine HVD.out.mono ?_
          rintro q uv ⟨rfl, hvv⟩
          have hvv2 := hvv.symm; clear hvv; subst hvv2
          clear HVD
          have HF := Lib.hid (find_any m s HS3.out.rt)
          unfold tbV vPost at HF
          cases hf : fnd l s with
          | none =>
            have ef : findV l s = 0 ∧ findE l s = 9 := ⟨by unfold findV; rw [if_neg (by simp [HOK.out]), hf], by unfold findE; rw [if_neg (by simp [HOK.out]), hf]⟩
            have EF := Lib.hid ef
            have hfi : fndI l s = -1 := by unfold fndI; rw [hf]
            rw [hfi] at HF
            clear ef hf hfi
            go_wp2_with fail
            refine (HF.out).mono ?_
            rintro q ud ⟨rfl, hb⟩
            have HSd := Lib.hid (HS3.out.below hb)
            clear hb x0 x1 xf0 xf1 lg
            obtain ⟨x0, x1, xf0, xf1⟩ := HSd.out.k.two
            have lg := HSd.out.k.lt
            clear HF
            have HH := Lib.hid (finds_true HSd.out.st s hs EF.out.1 EF.out.2)
            unfold boolTo at HH
            go_wp2_with fail
            refine (HH.out).mono ?_
            rintro q ue ⟨rfl, hb⟩
            have HSe := Lib.hid (HSd.out.below hb)
            clear hb x0 x1 xf0 xf1 lg
            obtain ⟨x0, x1, xf0, xf1⟩ := HSe.out.k.two
            have lg := HSe.out.k.lt
            clear HH
            go_wp2_with fail
            go_ret
            exact ⟨rfl, HSe.out.b⟩
          | some i =>
            have hfi : fndI l s = (i : Int) := by unfold fndI; rw [hf]
            rw [hfi] at HF
            have i0 : ¬ (i : Int) < 0 := by omega
            clear hf hfi
            go_wp2_with fail
            refine (HF.out).mono ?_
            rintro q ud ⟨rfl, hb⟩
            have HSd := Lib.hid (HS3.out.below hb)
            clear hb x0 x1 xf0 xf1 lg
            obtain ⟨x0, x1, xf0, xf1⟩ := HSd.out.k.two
            have lg := HSd.out.k.lt
            clear HF
            go_wp2_with fail
            go_ret
            exact ⟨rfl, HSd.out.b⟩
        · have ef : findV l s = 0 ∧ findE l s = 2 := ⟨by unfold findV; rw [if_pos hok], by unfold findE; rw [if_pos hok]⟩
          rw [decide_eq_false hok] at HVD
          have EF := Lib.hid ef
          clear ef hok
          go_wp2_with fail
          refine HVD.out.mono ?_
          rintro q uv ⟨rfl, hvv⟩
          have hvv2 := hvv.symm; clear hvv; subst hvv2
          clear HVD
          have HH := Lib.hid (finds_true HS3.out.st s hs EF.out.1 EF.out.2)
          unfold boolTo at HH
          go_wp2_with fail
          refine (HH.out).mono ?_
          rintro q ue ⟨rfl, hb⟩
          have HSe := Lib.hid (HS3.out.below hb)
          clear hb x0 x1 xf0 xf1 lg
          obtain ⟨x0, x1, xf0, xf1⟩ := HSe.out.k.two
          have lg := HSe.out.k.lt
          clear HH
          go_wp2_with fail
          go_ret
          exact ⟨rfl, HSe.out.b⟩
      · obtain ⟨e1, e2, e3⟩ := no_vals hh
        have E := Lib.hid (And.intro e1 (And.intro e2 e3))
        clear e1 e2 e3
        have HH := Lib.hid (has_any m n HS2.out.rt)
        unfold tbV vPost at HH
        rw [decide_eq_false hh] at HH
        go_wp2_with fail
        refine (HH.out).mono ?_
        rintro q u3 ⟨rfl, hb⟩
        have HS3 := Lib.hid (HS2.out.below hb)
        clear hb x0 x1 xf0 xf1 lg
        obtain ⟨x0, x1, xf0, xf1⟩ := HS3.out.k.two
        have lg := HS3.out.k.lt
        clear HH
        have HH := Lib.hid (names_true HS3.out.st n E.out.1 E.out.2.1)
        unfold boolTo at HH
        go_wp2_with fail
        refine (HH.out).mono ?_
        rintro q u4 ⟨rfl, hb⟩
        have HS4 := Lib.hid (HS3.out.below hb)
        clear hb x0 x1 xf0 xf1 lg
        obtain ⟨x0, x1, xf0, xf1⟩ := HS4.out.k.two
        have lg := HS4.out.k.lt
        clear HH
        have HH := Lib.hid (refs_true HS4.out.st n E.out.2.2 E.out.2.1)
        unfold boolTo at HH
        go_wp2_with fail
        refine (HH.out).mono ?_
        rintro q u5 ⟨rfl, hb⟩
        have HS5 := Lib.hid (HS4.out.below hb)
        clear hb x0 x1 xf0 xf1 lg
        obtain ⟨x0, x1, xf0, xf1⟩ := HS5.out.k.two
        have lg := HS5.out.k.lt
        clear HH
        have HVD := Lib.hid (valid_any s u5)
        by_cases hok : okN s
        · rw [decide_eq_true hok] at HVD
          have HOK := Lib.hid hok
          clear hok
          go_wp2_with fail
          refine HVD.out.mono ?_
          rintro q uv ⟨rfl, hvv⟩
          have hvv2 := hvv.symm; clear hvv; subst hvv2
          clear HVD
          have HF := Lib.hid (find_any m s HS5.out.rt)
          unfold tbV vPost at HF
          cases hf : fnd l s with
          | none =>
            have ef : findV l s = 0 ∧ findE l s = 9 := ⟨by unfold findV; rw [if_neg (by simp [HOK.out]), hf], by unfold findE; rw [if_neg (by simp [HOK.out]), hf]⟩
            have EF := Lib.hid ef
            have hfi : fndI l s = -1 := by unfold fndI; rw [hf]
            rw [hfi] at HF
            clear ef hf hfi
            go_wp2_with fail
            refine (HF.out).mono ?_
            rintro q ud ⟨rfl, hb⟩
            have HSd := Lib.hid (HS5.out.below hb)
            clear hb x0 x1 xf0 xf1 lg
            obtain ⟨x0, x1, xf0, xf1⟩ := HSd.out.k.two
            have lg := HSd.out.k.lt
            clear HF
            have HH := Lib.hid (finds_true HSd.out.st s hs EF.out.1 EF.out.2)
            unfold boolTo at HH
            go_wp2_with fail
            refine (HH.out).mono ?_
            rintro q ue ⟨rfl, hb⟩
            have HSe := Lib.hid (HSd.out.below hb)
            clear hb x0 x1 xf0 xf1 lg
            obtain ⟨x0, x1, xf0, xf1⟩ := HSe.out.k.two
            have lg := HSe.out.k.lt
            clear HH
            go_wp2_with fail
            go_ret
            exact ⟨rfl, HSe.out.b⟩
          | some i =>
            have hfi : fndI l s = (i : Int) := by unfold fndI; rw [hf]
            rw [hfi] at HF
            have i0 : ¬ (i : Int) < 0 := by omega
            clear hf hfi
            go_wp2_with fail
            refine (HF.out).mono ?_
            rintro q ud ⟨rfl, hb⟩
            have HSd := Lib.hid (HS5.out.below hb)
            clear hb x0 x1 xf0 xf1 lg
            obtain ⟨x0, x1, xf0, xf1⟩ := HSd.out.k.two
            have lg := HSd.out.k.lt
            clear HF
            go_wp2_with fail
            go_ret
            exact ⟨rfl, HSd.out.b⟩
        · have ef : findV l s = 0 ∧ findE l s = 2 := ⟨by unfold findV; rw [if_pos hok], by unfold findE; rw [if_pos hok]⟩
          rw [decide_eq_false hok] at HVD
          have EF := Lib.hid ef
          clear ef hok
          go_wp2_with fail
          refine HVD.out.mono ?_
          rintro q uv ⟨rfl, hvv⟩
          have hvv2 := hvv.symm; clear hvv; subst hvv2
          clear HVD
          have HH := Lib.hid (finds_true HS5.out.st s hs EF.out.1 EF.out.2)
          unfold boolTo at HH
          go_wp2_with fail
          refine (HH.out).mono ?_
          rintro q ue ⟨rfl, hb⟩
          have HSe := Lib.hid (HS5.out.below hb)
          clear hb x0 x1 xf0 xf1 lg
          obtain ⟨x0, x1, xf0, xf1⟩ := HSe.out.k.two
          have lg := HSe.out.k.lt
          clear HH
          go_wp2_with fail
          go_ret
          exact ⟨rfl, HSe.out.b⟩
end
end Go.Proofs.Ytmhbfplpodikiaa.Aj
