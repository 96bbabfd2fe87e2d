/- Proves that InternHolds returns true. Conditions: as each theorem names them. -/
import Derived.Test.YtmhbfplpodikiaaAl
import Derived.Test.YtmhbfplpodikiaaAs
namespace Go.Proofs.Ytmhbfplpodikiaa.At
open Go.RowKit Ap Mi Nw Rg Aa Ab Ac Ad Ag Ah Ai Aj Ak Al As

def ints (l : List Int) : List Value := l.map fun n => .int .i64 n
theorem elI : Elm Try.prog 54 3 (.int .i64 0) 1 where
  sl := Try.underlying54
  info := by kernel_rfl
  small := by
    have h : (Try.prog.info? 3).map (·.bytes) = some 8 := by kernel_rfl
    intro i hi; rw [hi] at h; simp at h; omega
  cells := rfl
  pos := by omega
theorem src_int (w : World) (n : Int) : Src Try.prog 1 54 (.slice (some ⟨w.heap.size, 0, none⟩) 1 1) 1 [.int .i64 n] (w.alloc (.cells #[.int .i64 n] 3)) := by
  have h : Mine w.heap.size 1 (w.alloc (.cells #[.int .i64 n] 3)) (some ⟨w.heap.size, 0, none⟩) 1 1 [.int .i64 n] := Mine.lit w #[.int .i64 n] 3 1 rfl (by unfold maxLen; omega)
  exact (Rs.mine h).src (P := Try.prog) Try.underlying54 (by omega) (by simp [Value.oneCell'])
/-- Two tables that hold the same. -/
structure Tb (N : Nat) (w0 : World) (m : Int) (K : Nat) (F E : Nat → Prop) (g h : Nat) (l : List Nr) (w : World) : Prop where
  s : St F w g m l
  t : St E w h m l
  d : ∀ j, F j → ¬ E j
  f : ∀ j, F j → N ≤ j ∧ j < w.heap.size
  e : ∀ j, E j → N ≤ j ∧ j < w.heap.size
  bl : Below N w0 w
  iv : Iv l
  fi : Fine (K : Int) l
  le : l.length ≤ K
  nz : N ≤ w.heap.size
section
variable {N : Nat} {w0 : World} {m : Int} {K : Nat} {F E : Nat → Prop} {g h : Nat} {l L : List Nr} {w v u1 u2 : World}
theorem Tb.below (b : Tb N w0 m K F E g h l w) (hb : Below w.heap.size w v) : Tb N w0 m K F E g h l v :=
  ⟨b.s.below hb, b.t.below hb, b.d, fun j hj => ⟨(b.f j hj).1, Nat.lt_of_lt_of_le (b.f j hj).2 hb.size⟩, fun j hj => ⟨(b.e j hj).1, Nat.lt_of_lt_of_le (b.e j hj).2 hb.size⟩, b.bl.trans (hb.mono b.nz), b.iv, b.fi, b.le, Nat.le_trans b.nz hb.size⟩
theorem tb_next (b : Tb N w0 m K F E g h l v) (h1 : Gave F v u1 g m L) (h2 : Gave E u1 u2 h m L) (hi : Iv L) (hf : Fine ((K + 1 : Nat) : Int) L) (hl : L.length ≤ K + 1) :
    (∃ F' E', Tb N w0 m (K + 1) F' E' g h L u2) ∧ Only (fun j => F j ∨ E j) v u2 := by
  obtain ⟨F1, a1, a2, a3⟩ := h1
  obtain ⟨E1, b1, b2, b3⟩ := h2
  have z1 := a3.size; have z2 := b3.size
  have nz := b.nz
  have fF : ∀ j, F1 j ∧ j < u1.heap.size → N ≤ j ∧ ¬ E j := fun j hj => by
    rcases a2 j hj.1 with q | q
    · exact ⟨(b.f j q).1, b.d j q⟩
    · exact ⟨by omega, fun e => by have := (b.e j e).2; omega⟩
  have eE : ∀ j, E1 j ∧ j < u2.heap.size → N ≤ j ∧ ¬ (F1 j ∧ j < u1.heap.size) := fun j hj => by
    rcases b2 j hj.1 with q | q
    · exact ⟨(b.e j q).1, fun e => (fF j e).2 q⟩
    · exact ⟨by omega, fun e => by omega⟩
  refine ⟨⟨_, _, a1.tight.only b3 (fun j hj => (fF j hj).2), b1.tight, fun j hj he => (eE j he).2 hj, fun j hj => ⟨(fF j hj).1, by have := hj.2; omega⟩, fun j hj => ⟨(eE j hj).1, hj.2⟩, (b.bl.trans (a3.below (fun j hj => (b.f j hj).1) nz)).trans (b3.below (fun j hj => (b.e j hj).1) (by omega)), hi, hf, hl, by omega⟩, ?_⟩
  exact (a3.mono fun _ _ q => Or.inl q).trans (b3.mono fun _ _ q => Or.inl (Or.inr q))
theorem Tb.more (b : Tb N w0 m K F E g h l w) : Tb N w0 m (K + 1) F E g h l w := ⟨b.s, b.t, b.d, b.f, b.e, b.bl, b.iv, fine_mono b.fi (by omega), by have := b.le; omega, b.nz⟩
theorem found (hv : Iv l) {x : ByteArray} (hx : x ∈ namesL l) : findE l x = 0 ∧ nameV l (findV l x) = x ∧ nameE l (findV l x) = 0 ∧ x.size ≤ 64 := by
  obtain ⟨i, hi, hr, e, hf, hk⟩ := name_fnd hv hx
  have e1 : findV l x = (i : Int) := by unfold findV; rw [if_neg (by simp [hk]), hf]
  have hh := (has_nat hi).2 hr
  have hg : l.getD (i : Int).toNat zeroN = l[i] := by rw [Int.toNat_natCast, List.getD_eq_getElem?_getD, List.getElem?_eq_getElem hi]; rfl
  refine ⟨by unfold findE; rw [if_neg (by simp [hk]), hf], ?_, ?_, hk.2⟩
  · rw [e1]; unfold nameV; rw [if_pos hh, hg, e]
  · rw [e1]; unfold nameE; rw [if_pos hh]
theorem later {l' : List Nr} (hv : Iv l) (hv' : Iv l') (hn : Nxt l l') {x : ByteArray} (hx : x ∈ namesL l) : (findE l' x = 9) ∨ (findE l' x = 0 ∧ findV l' x = findV l x ∧ findV l' x < l'.length) := by
  obtain ⟨i, hi, hr, e, hf, hk⟩ := name_fnd hv hx
  cases hj : fnd l' x with
  | none => exact Or.inl (by unfold findE; rw [if_neg (by simp [hk]), hj])
  | some j =>
    have hij := nxt_same hn hv' hf hj
    subst hij
    have := (fnd_some hj).1
    refine Or.inr ⟨by unfold findE; rw [if_neg (by simp [hk]), hj], ?_, ?_⟩
    · unfold findV; rw [if_neg (by simp [hk]), if_neg (by simp [hk]), hf, hj]
    · unfold findV; rw [if_neg (by simp [hk]), hj]; simp; omega
open Classical in
set_option maxRecDepth 100000 in
set_option maxHeartbeats 4000000 in
theorem holds_walk (D : Option Addr) (q0 : Nat) (acts : List Ca) (m sd od : Int) (hsd : 0 ≤ sd ∧ sd < 18446744073709551616) (hod : 0 ≤ od ∧ od < 18446744073709551616) (W : World) (ha : Rs W 3 D acts.length q0 (caL acts)) :
    Calls Try.prog 8 #[.int .i64 m, .slice D acts.length q0, .int .u64 sd, .int .u64 od] W (boolTo true W) := by
  have HA := Lib.hid ha
  have HFW := Lib.hid (few_any ha)
  have hcm := Rs.max ha
  have hcl := Rs.le ha
  unfold maxLen at hcm
  unfold boolTo
  have HSD := Lib.hid hsd
  have HOD := Lib.hid hod
  clear ha hsd hod
  by_cases hm : 1 ≤ m ∧ m ≤ 65536
  case neg =>
    have hm12 : m < 1 ∨ (¬ m < 1 ∧ 65536 < m) := by omega
    rcases hm12 with i1 | ⟨i1, i2⟩
    · clear hm
      go_enter Try.func8, Try.ntmps8
      go_wp2_with fail
      refine (known_any _).mono ?_
      rintro q w9 ⟨rfl, hb⟩
      have HB9 := Lib.hid hb
      clear hb
      go_wp2_with fail
      go_ret
      exact ⟨rfl, HB9.out⟩
    · clear hm
      go_enter Try.func8, Try.ntmps8
      go_wp2_with fail
      refine (known_any _).mono ?_
      rintro q w9 ⟨rfl, hb⟩
      have HB9 := Lib.hid hb
      clear hb
      go_wp2_with fail
      go_ret
      exact ⟨rfl, HB9.out⟩
  have i1 : ¬ m < 1 := by omega
  have i2 : ¬ 65536 < m := by omega
  have HM := Lib.hid hm
  clear hm
  by_cases hfw : fewP acts
  case neg =>
    rw [decide_eq_false hfw] at HFW
    clear hfw
    go_enter Try.func8, Try.ntmps8
    go_wp2_with fail
    refine HFW.out.mono ?_
    rintro q w1 ⟨rfl, hw⟩
    have hw2 := hw.symm; clear hw; subst hw2
    go_wp2_with fail
    refine (known_any _).mono ?_
    rintro q w9 ⟨rfl, hb⟩
    have HB9 := Lib.hid hb
    clear hb
    go_wp2_with fail
    go_ret
    exact ⟨rfl, HB9.out⟩
  rw [decide_eq_true hfw] at HFW
  have HFP := Lib.hid hfw
  have hl60 := hfw.1
  clear hfw
  have HN1 := Lib.hid (new_yes HM.out sd HSD.out W)
  unfold newPost at HN1
  go_enter Try.func8, Try.ntmps8
  go_wp2_with fail
  refine HFW.out.mono ?_
  rintro q w1 ⟨rfl, hw⟩
  have hw2 := hw.symm; clear hw; subst hw2
  clear HFW
  go_wp2_with fail
  refine HN1.out.mono ?_
  rintro q w2 ⟨g, F0, rfl, hs, hf, hb⟩
  have S1 := Lib.hid hs; have F1 := Lib.hid hf; have B1 := Lib.hid hb
  clear hs hf hb HN1
  have HN2 := Lib.hid (new_yes HM.out od HOD.out w2)
  unfold newPost at HN2
  go_wp2_with fail
  refine HN2.out.mono ?_
  rintro q w3 ⟨h, E0, rfl, hs, hf, hb⟩
  have HTB : Hid (Tb W.heap.size W m 0 (fun j => F0 j ∧ j < w2.heap.size) (fun j => E0 j ∧ j < w3.heap.size) g h [] w3) := ⟨S1.out.tight.below hb, hs.tight, fun j hj he => by have := hf j he.1; have := hj.2; omega, fun j hj => ⟨F1.out j hj.1, by have := hj.2; have := hb.size; omega⟩, fun j hj => ⟨by have := hf j hj.1; have := B1.out.size; omega, hj.2⟩, B1.out.trans (hb.mono B1.out.size), iv_nil, (fun x hx => by cases hx), Nat.le_refl _, by have := B1.out.size; have := hb.size; omega⟩
  clear hs hf hb HN2 S1 F1 B1
  go_wp2_with fail
  go_loopw [13, 14] (fun gr i wr => ∃ (K b : Nat) (F E : Nat → Prop) (l : List Nr), K ≤ acts.length ∧ i = .int .i64 (K : Int) ∧ gr = .int .i64 (b : Int) ∧ l.length ≤ b ∧ Tb W.heap.size W m K F E g h l wr) (fun _ i _ => acts.length - (intOf i).toNat)
  case atStart => exact ⟨0, 0, _, _, [], Nat.zero_le _, rfl, rfl, Nat.le_refl _, HTB.out⟩
  case round =>
    obtain ⟨K, b, F, E, l, hK, rfl, rfl, hlb, htb⟩ := hrel
    have HLB := Lib.hid hlb
    clear HTB hlb
    by_cases hlt : K < acts.length
    · have j1 : (K : Int) < (acts.length : Int) := by omega
      have hK60 : K ≤ 60 := by omega
      obtain ⟨tb, to_, rfl, ltb, a0, a1, a2⟩ := ca_at (HA.out.below htb.bl (Nat.le_refl _)) hlt
      obtain ⟨y, hy⟩ : ∃ y, y = acts[K] := ⟨_, rfl⟩
      have hyk : y.k.size ≤ 100 := by rw [hy]; exact HFP.out.2 _ (List.getElem_mem hlt)
      have hy2 := hy.symm
      rw [hy2] at a0 a1 a2
      clear hy hy2
      obtain ⟨v0, hv0⟩ : ∃ v0, v0 = wr.alloc (.cells #[.int .i64 y.q, .int .i64 y.n, .string y.k] 36) := ⟨_, rfl⟩
      obtain ⟨b9, hb9⟩ : ∃ b9, b9 = wr.heap.size := ⟨_, rfl⟩
      have hb0 : Below wr.heap.size wr v0 := by rw [hv0]; exact bnew _ _
      have K9 : Hid (Blk v0 b9 #[.int .i64 y.q, .int .i64 y.n, .string y.k] 36) := by show Blk _ _ _ _; rw [hv0, hb9]; exact Blk.new _ _ _
      have T0 := Lib.hid (htb.below hb0)
      have N9 : Hid (∀ j, F j ∨ E j → j ≠ b9) := fun j hj => by rcases hj with q | q; have := (htb.f j q).2; omega; have := (htb.e j q).2; omega
      clear htb hb0
      go_upto_region 12 with fail
      rw [← hv0, ← hb9]
      clear hv0 hb9 a0 a1 a2
      have HNM := Lib.hid (names_fr T0.out.s)
      go_wp2_with fail
      refine HNM.out.mono ?_
      rintro q v1 ⟨A, c, rfl, hr, hA, hb⟩
      have HR1 := Lib.hid hr; have HAB := Lib.hid hA; have B1 := Lib.hid hb
      have T1 := Lib.hid (T0.out.below hb)
      have K91 := Lib.hid (K9.out.below hb K9.out.lt)
      clear hr hA hb HNM
      have hnlen : (namesL l).length ≤ 100 := by rw [namesL_len]; have := cnt_le l; have := T1.out.le; omega
      have HFD : Hid (∀ x ∈ namesL l, findE l x = 0 ∧ nameV l (findV l x) = x ∧ nameE l (findV l x) = 0 ∧ x.size ≤ 64) := fun x hx => found T1.out.iv hx
      obtain ⟨nn, hnn⟩ : ∃ nn, nn = namesL l := ⟨_, rfl⟩
      rw [← hnn] at HR1 hnlen HFD
      have HNN := Lib.hid hnn
      rw [← hnn]
      clear hnn
      have hc2 := Rs.le HR1.out
      have hc3 := Rs.max HR1.out
      unfold maxLen at hc3
      go_wp2_with fail
      go_loopw [17, 18] (fun nu k wi => ∃ (k_ : Nat) (D2 : Option Addr) (f : Nat), k_ ≤ nn.length ∧ k = .int .i64 (k_ : Int) ∧ nu = .slice D2 k_ f ∧ Mine v1.heap.size 1 wi D2 k_ f (ints ((nn.take k_).map (findV l))) ∧ Below v1.heap.size v1 wi) (fun _ k _ => nn.length - (intOf k).toNat)
      case atStart => exact ⟨0, none, 0, Nat.zero_le _, rfl, rfl, Mine.nil _ _ _, Below.refl _ _⟩
      case round =>
        obtain ⟨k, D2, f, hk, rfl, rfl, hmi, hbi⟩ := hrel
        have HMI := Lib.hid hmi; have HBI := Lib.hid hbi
        have hz1 := hbi.size
        have hmf := hmi.le; have hmx := hmi.max
        unfold maxLen at hmx
        clear hmi hbi
        by_cases hkl : k < nn.length
        · have j2 : (k : Int) < (nn.length : Int) := by omega
          obtain ⟨rb, ro, rfl, lrb, r0⟩ := Rs_str (HR1.out.below HBI.out (Nat.le_refl _)) hkl
          obtain ⟨x, hx⟩ : ∃ x, x = nn[k] := ⟨_, rfl⟩
          have hxm : x ∈ nn := by rw [hx]; exact List.getElem_mem hkl
          have HTK : Hid ((nn.take (k + 1)).map (findV l) = (nn.take k).map (findV l) ++ [findV l x]) := by show _ = _; rw [List.take_succ_eq_append_getElem hkl, List.map_append, hx]; rfl
          have HXX : Hid (nn[k] = x) := hx.symm
          rw [HXX.out] at r0
          clear hx
          obtain ⟨p1, p2, p3, p4⟩ := HFD.out x hxm
          obtain ⟨V, hV⟩ : ∃ V, V = findV l x := ⟨_, rfl⟩
          rw [← hV] at p2 p3 HTK
          have HFI := Lib.hid (find_st (T1.out.below HBI.out).s x (by omega))
          unfold vPost at HFI
          rw [p1, ← hV] at HFI
          have P := Lib.hid (And.intro p2 p3)
          clear p1 p2 p3 hV
          go_wp2_with fail
          refine HFI.out.mono ?_
          rintro q v2 ⟨rfl, hb⟩
          have B2 := Lib.hid (HBI.out.trans (hb.mono hz1))
          have M2 := Lib.hid (HMI.out.below hb (Nat.le_refl _))
          have hz2 := hb.size
          clear hb HFI r0 lrb
          obtain ⟨rb2, ro2, ea, lrb, r0⟩ := Rs_str (HR1.out.below B2.out (Nat.le_refl _)) hkl
          injection ea with ea; injection ea with ea1 ea2; subst ea1; subst ea2
          have hx3 : nn[k] = x := HXX.out
          rw [hx3] at r0
          clear hx3
          have HNT := Lib.hid (names_true (T1.out.below B2.out).s V P.out.1 P.out.2)
          unfold boolTo at HNT
          go_wp2_with fail
          refine HNT.out.mono ?_
          rintro q v3 ⟨rfl, hb⟩
          have B3 := Lib.hid (B2.out.trans (hb.mono (Nat.le_trans hz1 hz2)))
          have M3 := Lib.hid (M2.out.below hb (Nat.le_refl _))
          have hz3 := hb.size
          clear hb HNT r0 lrb
          go_wp2_with (at_builtin; (refine wpList_mine rfl _ _ elI _ rfl rfl (M3.out.below (bnew v3 (.cells #[.int .i64 V] 3)) (Nat.le_refl _)) _ rfl 1 _ (src_int v3 V) (by omega) (by omega) (by simp; omega) ?_))
          intro A5 c5 u5 m5 g5 q5
          have M5 : Hid (Mine v1.heap.size 1 u5 A5 (k + 1) c5 (ints ((nn.take (k + 1)).map (findV l)))) := by
            show Mine _ _ _ _ _ _ _
            rw [HTK.out]
            unfold ints
            rw [List.map_append, List.map_take]
            exact m5
          have B5 : Hid (Below v1.heap.size v1 u5) := (B3.out.trans ((bnew v3 (.cells #[.int .i64 V] 3)).mono B3.out.size)).trans ((Ac.only_row (F := fun j => v1.heap.size ≤ j) g5 (fun a ha => (M3.out.base ha).1)).below (fun _ h => h) (by have := B3.out.size; simp; omega))
          clear m5 g5 q5
          go_wp2_with fail
          go_roundw
          case rel => exact ⟨k + 1, A5, c5, by omega, by go_num, rfl, M5.out, B5.out⟩
          case measure => simp [intOf]; omega
        · obtain rfl : k = nn.length := by omega
          have hnn2 : ¬ (nn.length : Int) < (nn.length : Int) := by omega
          rw [List.take_length] at HMI
          clear hkl hk
          have T2 := Lib.hid (T1.out.below HBI.out)
          have K92 := Lib.hid (K91.out.below HBI.out K91.out.lt)
          have R2 := Lib.hid (HR1.out.below HBI.out (Nat.le_refl _))
          obtain ⟨x0, x1, x2, _⟩ := K92.out.three
          have l9 := K92.out.lt
          obtain ⟨wi, hwi⟩ : ∃ x, x = wr := ⟨_, rfl⟩
          subst hwi
          have HRW : Hid (∀ v, Only (fun j => F j ∨ E j) wi v → Rs v 1 A nn.length c (strs nn) ∧ Mine v1.heap.size 1 v D2 nn.length f (ints (nn.map (findV l))) ∧ Blk v b9 #[.int .i64 y.q, .int .i64 y.n, .string y.k] 36) := fun v hv => ⟨R2.out.only hv (fun a ha hq => by have h1 := HAB.out a ha; rcases hq with q | q; have := (T0.out.f _ q).2; omega; have := (T0.out.e _ q).2; omega), HMI.out.only hv (fun a ha hq => by have h1 := (HMI.out.base ha).1; have h2 := B1.out.size; rcases hq with q | q; have := (T0.out.f _ q).2; omega; have := (T0.out.e _ q).2; omega), K92.out.only hv (fun hq => N9.out _ hq rfl)⟩
          by_cases h0 : y.q = 0
          · have e0 : (y.q == 0) = true := by simp [h0]
            clear h0
            have HC := Lib.hid (add_st T2.out.s (fine_mono T2.out.fi (by omega)) y.k (by omega))
            have IV := Lib.hid (iv_add T2.out.iv m y.k)
            have FI : Hid (Fine ((K + 1 : Nat) : Int) (addL m l y.k)) := by have := fine_add T2.out.fi (by omega) y.k (most := m); rw [show (((K + 1 : Nat)) : Int) = (K : Int) + 1 by omega]; exact this
            have LE : Hid ((addL m l y.k).length ≤ K + 1) := by show _ ≤ _; have := (addL_len m l y.k).2; have := T2.out.le; omega
            have HNX : Hid (Nxt l (addL m l y.k)) := nxt_add m y.k
            have HLE : Hid ((addL m l y.k).length ≤ max b (cnt (addL m l y.k))) := len_add HLB.out m y.k
            obtain ⟨V, hV⟩ : ∃ V, V = addV m l y.k := ⟨_, rfl⟩
            obtain ⟨E1, hE⟩ : ∃ E1, E1 = addE m l y.k := ⟨_, rfl⟩
            obtain ⟨L, hL⟩ : ∃ L, L = addL m l y.k := ⟨_, rfl⟩
            rw [← hV, ← hE, ← hL] at HC
            rw [← hL] at IV FI LE HNX HLE
            have HV := Lib.hid hV.symm; have HE := Lib.hid hE.symm; have HL := Lib.hid hL.symm
            clear hV hE hL
            go_wp2_with fail
            refine HC.out.mono ?_
            rintro q u3 ⟨rfl, hg⟩
            have HG := Lib.hid hg
            obtain ⟨_, _, _, ho3⟩ := hg
            have K93 := Lib.hid (K92.out.only ho3 (fun hq => N9.out _ (Or.inl hq) rfl))
            have S3 := Lib.hid (T2.out.t.only ho3 (fun j he hq => T2.out.d j hq he))
            clear ho3 HC x0 x1 x2 l9
            obtain ⟨x0, x1, x2, _⟩ := K93.out.three
            have l9 := K93.out.lt
            have HAD := Lib.hid (adds_true S3.out (fine_mono T2.out.fi (by omega)) y.k (by omega) HV.out HE.out)
            go_wp2_with fail
            refine HAD.out.mono ?_
            rintro q u9 ⟨rfl, hg⟩
            rw [HL.out] at hg
            obtain ⟨⟨F9, E9, ht9⟩, ho9⟩ := tb_next T2.out HG.out hg IV.out FI.out LE.out
            have T9 := Lib.hid ht9; have ONX := Lib.hid ho9
            clear ht9 ho9 hg HAD x0 x1 x2 l9
            obtain ⟨r9, m9, _⟩ := HRW.out _ ONX.out
            have R9 := Lib.hid r9; have M9 := Lib.hid m9
            clear r9 m9
            have HLN := Lib.hid (len_st T9.out.s)
            unfold vPost at HLN
            go_wp2_with fail
            refine HLN.out.mono ?_
            rintro q ua ⟨rfl, hb⟩
            have Ta := Lib.hid (T9.out.below hb)
            have Ra := Lib.hid (R9.out.below hb (Nat.le_refl _))
            have Ma := Lib.hid (M9.out.below hb (Nat.le_refl _))
            clear hb HLN
            obtain ⟨mx, hmx2⟩ : ∃ mx : Nat, mx = max b (cnt L) := ⟨_, rfl⟩
            have hmxi : max (b : Int) (cnt L : Int) = (mx : Int) := by omega
            have HLM : Hid (L.length ≤ mx) := by show _ ≤ _; rw [hmx2]; exact HLE.out
            have HMX := Lib.hid hmx2
            clear hmx2
            go_wp2_with fail
            all_goals (try (have hqq : (cnt L : Int) = (mx : Int) := (by have := HMX.out; omega); rw [hqq]; clear hqq))
            all_goals (try (have hqq : (b : Int) = (mx : Int) := (by have := HMX.out; omega); rw [hqq]; clear hqq))
            all_goals
              go_loopw [27] (fun j_ wj => ∃ j : Nat, j ≤ nn.length ∧ j_ = .int .i64 (j : Int) ∧ Below ua.heap.size ua wj) (fun j_ _ => nn.length - (intOf j_).toNat)
              case atStart => exact ⟨0, Nat.zero_le _, rfl, Below.refl _ _⟩
              case round =>
                obtain ⟨j, hj, rfl, hbj⟩ := hrel
                have HBJ := Lib.hid hbj
                have hzj := hbj.size
                clear hbj
                by_cases hjl : j < nn.length
                · have j3 : (j : Int) < (nn.length : Int) := by omega
                  obtain ⟨rb, ro, ra, lrb, r0⟩ := Rs_str (Ra.out.below HBJ.out (Nat.le_refl _)) hjl
                  obtain ⟨x, hx⟩ : ∃ x, x = nn[j] := ⟨_, rfl⟩
                  have hxm : x ∈ namesL l := by rw [← HNN.out, hx]; exact List.getElem_mem hjl
                  have hxs : x.size ≤ 1000000 := by have := (HFD.out x (by rw [HNN.out]; exact hxm)).2.2.2; omega
                  have hmj : (ints (nn.map (findV l)))[j]? = some (.int .i64 (findV l x)) := by unfold ints; rw [List.getElem?_map, List.getElem?_map, List.getElem?_eq_getElem hjl, hx]; rfl
                  have hx2 := hx.symm
                  rw [hx2] at r0
                  clear hx hx2
                  obtain ⟨nb, no, na, lnb, n0⟩ := (Rs.mine (Ma.out.below HBJ.out (Nat.le_refl _))).rd.at_ hmj
                  have HLT := later T1.out.iv Ta.out.iv HNX.out hxm
                  have HFI := Lib.hid (find_st (Ta.out.below HBJ.out).s x hxs)
                  unfold vPost at HFI
                  obtain ⟨V, hV⟩ : ∃ V, V = findV l x := ⟨_, rfl⟩
                  rw [← hV] at n0 HLT
                  try rw [← hV] at HFI
                  clear hV hmj
                  subst ra
                  subst na
                  rcases HLT with e9 | ⟨e0, ev, el⟩
                  · rw [e9] at HFI
                    clear e9
                    go_wp2_with fail
                    refine HFI.out.mono ?_
                    rintro q uc ⟨rfl, hb⟩
                    have Bc := Lib.hid (HBJ.out.trans (hb.mono hzj))
                    clear hb HFI
                    go_wp2_with fail
                    go_roundw
                    case rel => exact ⟨j + 1, by omega, by go_num, Bc.out⟩
                    case measure => simp [intOf]; omega
                  · rw [e0] at HFI
                    try rw [ev] at HFI
                    try rw [ev] at el
                    have hne : (V != V) = false := by simp
                    have hge : ¬ (mx : Int) ≤ V := by have := HLM.out; omega
                    clear e0 ev el
                    go_wp2_with fail
                    refine HFI.out.mono ?_
                    rintro q uc ⟨rfl, hb⟩
                    have Bc := Lib.hid (HBJ.out.trans (hb.mono hzj))
                    have n0c := (hb.cell lnb).trans n0
                    have lnc := Nat.lt_of_lt_of_le lnb hb.size
                    clear hb HFI n0 r0 lrb lnb
                    go_wp2_with fail
                    go_roundw
                    case rel => exact ⟨j + 1, by omega, by go_num, Bc.out⟩
                    case measure => simp [intOf]; omega
                · obtain rfl : j = nn.length := by omega
                  have hnn3 : ¬ (nn.length : Int) < (nn.length : Int) := by omega
                  clear hjl hj
                  have Td := Lib.hid (Ta.out.below HBJ.out)
                  have HN1 := Lib.hid (names_st Td.out.s)
                  go_wp2_with fail
                  refine HN1.out.mono ?_
                  rintro q ud ⟨A8, c8, rfl, hr, hb⟩
                  have Rd := Lib.hid hr
                  have Te := Lib.hid (Td.out.below hb)
                  clear hr hb HN1
                  have HN2 := Lib.hid (names_st Te.out.t)
                  go_wp2_with fail
                  refine HN2.out.mono ?_
                  rintro q ue ⟨A7, c7, rfl, hr, hb⟩
                  have Re := Lib.hid hr
                  have Rd2 := Lib.hid (Rd.out.below hb (Nat.le_refl _))
                  have Tf := Lib.hid (Te.out.below hb)
                  clear hr hb HN2
                  have HST := Lib.hid (strings_true rfl rfl Rd2.out Re.out)
                  unfold boolTo at HST
                  go_wp2_with fail
                  refine HST.out.mono ?_
                  rintro q uf ⟨rfl, hb⟩
                  have Tg := Lib.hid (Tf.out.below hb)
                  clear hb HST
                  go_wp2_with fail
                  go_roundw
                  case rel => exact ⟨K + 1, mx, _, _, L, by omega, by go_num, rfl, HLM.out, Tg.out⟩
                  case measure => simp [intOf]; omega
          · have e0 : (y.q == 0) = false := by simpa using h0
            by_cases h1 : y.q = 1
            · have e1 : (y.q == 1) = true := by simp [h1]
              clear h0 h1
              have HC := Lib.hid (rel_st T2.out.s y.n)
              have IV := Lib.hid (iv_rel T2.out.iv y.n)
              have FI : Hid (Fine ((K + 1 : Nat) : Int) (relL l y.n)) := fine_mono (fine_rel T2.out.fi (by omega) y.n) (by omega)
              have LE : Hid ((relL l y.n).length ≤ K + 1) := by show _ ≤ _; have := relL_len l y.n; have := T2.out.le; omega
              have HNX : Hid (Nxt l (relL l y.n)) := nxt_rel T2.out.iv y.n
              have HLE : Hid ((relL l y.n).length ≤ max b (cnt (relL l y.n))) := len_rel HLB.out y.n
              obtain ⟨V, hV⟩ : ∃ V, V = relB l y.n := ⟨_, rfl⟩
              obtain ⟨E1, hE⟩ : ∃ E1, E1 = relE l y.n := ⟨_, rfl⟩
              obtain ⟨L, hL⟩ : ∃ L, L = relL l y.n := ⟨_, rfl⟩
              rw [← hV, ← hE, ← hL] at HC
              rw [← hL] at IV FI LE HNX HLE
              have HV := Lib.hid hV.symm; have HE := Lib.hid hE.symm; have HL := Lib.hid hL.symm
              clear hV hE hL
              go_wp2_with fail
              refine HC.out.mono ?_
              rintro q u3 ⟨rfl, hg⟩
              have HG := Lib.hid hg
              obtain ⟨_, _, _, ho3⟩ := hg
              have K93 := Lib.hid (K92.out.only ho3 (fun hq => N9.out _ (Or.inl hq) rfl))
              have S3 := Lib.hid (T2.out.t.only ho3 (fun j he hq => T2.out.d j hq he))
              clear ho3 HC x0 x1 x2 l9
              obtain ⟨x0, x1, x2, _⟩ := K93.out.three
              have l9 := K93.out.lt
              have HAD := Lib.hid (frees_true S3.out y.n HV.out HE.out)
              go_wp2_with fail
              refine HAD.out.mono ?_
              rintro q u9 ⟨rfl, hg⟩
              rw [HL.out] at hg
              obtain ⟨⟨F9, E9, ht9⟩, ho9⟩ := tb_next T2.out HG.out hg IV.out FI.out LE.out
              have T9 := Lib.hid ht9; have ONX := Lib.hid ho9
              clear ht9 ho9 hg HAD x0 x1 x2 l9
              obtain ⟨r9, m9, _⟩ := HRW.out _ ONX.out
              have R9 := Lib.hid r9; have M9 := Lib.hid m9
              clear r9 m9
              have HLN := Lib.hid (len_st T9.out.s)
              unfold vPost at HLN
              go_wp2_with fail
              refine HLN.out.mono ?_
              rintro q ua ⟨rfl, hb⟩
              have Ta := Lib.hid (T9.out.below hb)
              have Ra := Lib.hid (R9.out.below hb (Nat.le_refl _))
              have Ma := Lib.hid (M9.out.below hb (Nat.le_refl _))
              clear hb HLN
              obtain ⟨mx, hmx2⟩ : ∃ mx : Nat, mx = max b (cnt L) := ⟨_, rfl⟩
              have hmxi : max (b : Int) (cnt L : Int) = (mx : Int) := by omega
              have HLM : Hid (L.length ≤ mx) := by show _ ≤ _; rw [hmx2]; exact HLE.out
              have HMX := Lib.hid hmx2
              clear hmx2
              go_wp2_with fail
              all_goals (try (have hqq : (cnt L : Int) = (mx : Int) := (by have := HMX.out; omega); rw [hqq]; clear hqq))
              all_goals (try (have hqq : (b : Int) = (mx : Int) := (by have := HMX.out; omega); rw [hqq]; clear hqq))
              all_goals
                go_loopw [27] (fun j_ wj => ∃ j : Nat, j ≤ nn.length ∧ j_ = .int .i64 (j : Int) ∧ Below ua.heap.size ua wj) (fun j_ _ => nn.length - (intOf j_).toNat)
                case atStart => exact ⟨0, Nat.zero_le _, rfl, Below.refl _ _⟩
                case round =>
                  obtain ⟨j, hj, rfl, hbj⟩ := hrel
                  have HBJ := Lib.hid hbj
                  have hzj := hbj.size
                  clear hbj
                  by_cases hjl : j < nn.length
                  · have j3 : (j : Int) < (nn.length : Int) := by omega
                    obtain ⟨rb, ro, ra, lrb, r0⟩ := Rs_str (Ra.out.below HBJ.out (Nat.le_refl _)) hjl
                    obtain ⟨x, hx⟩ : ∃ x, x = nn[j] := ⟨_, rfl⟩
                    have hxm : x ∈ namesL l := by rw [← HNN.out, hx]; exact List.getElem_mem hjl
                    have hxs : x.size ≤ 1000000 := by have := (HFD.out x (by rw [HNN.out]; exact hxm)).2.2.2; omega
                    have hmj : (ints (nn.map (findV l)))[j]? = some (.int .i64 (findV l x)) := by unfold ints; rw [List.getElem?_map, List.getElem?_map, List.getElem?_eq_getElem hjl, hx]; rfl
                    have hx2 := hx.symm
                    rw [hx2] at r0
                    clear hx hx2
                    obtain ⟨nb, no, na, lnb, n0⟩ := (Rs.mine (Ma.out.below HBJ.out (Nat.le_refl _))).rd.at_ hmj
                    have HLT := later T1.out.iv Ta.out.iv HNX.out hxm
                    have HFI := Lib.hid (find_st (Ta.out.below HBJ.out).s x hxs)
                    unfold vPost at HFI
                    obtain ⟨V, hV⟩ : ∃ V, V = findV l x := ⟨_, rfl⟩
                    rw [← hV] at n0 HLT
                    try rw [← hV] at HFI
                    clear hV hmj
                    subst ra
                    subst na
                    rcases HLT with e9 | ⟨e0, ev, el⟩
                    · rw [e9] at HFI
                      clear e9
                      go_wp2_with fail
                      refine HFI.out.mono ?_
                      rintro q uc ⟨rfl, hb⟩
                      have Bc := Lib.hid (HBJ.out.trans (hb.mono hzj))
                      clear hb HFI
                      go_wp2_with fail
                      go_roundw
                      case rel => exact ⟨j + 1, by omega, by go_num, Bc.out⟩
                      case measure => simp [intOf]; omega
                    · rw [e0] at HFI
                      try rw [ev] at HFI
                      try rw [ev] at el
                      have hne : (V != V) = false := by simp
                      have hge : ¬ (mx : Int) ≤ V := by have := HLM.out; omega
                      clear e0 ev el
                      go_wp2_with fail
                      refine HFI.out.mono ?_
                      rintro q uc ⟨rfl, hb⟩
                      have Bc := Lib.hid (HBJ.out.trans (hb.mono hzj))
                      have n0c := (hb.cell lnb).trans n0
                      have lnc := Nat.lt_of_lt_of_le lnb hb.size
                      clear hb HFI n0 r0 lrb lnb
                      go_wp2_with fail
                      go_roundw
                      case rel => exact ⟨j + 1, by omega, by go_num, Bc.out⟩
                      case measure => simp [intOf]; omega
                  · obtain rfl : j = nn.length := by omega
                    have hnn3 : ¬ (nn.length : Int) < (nn.length : Int) := by omega
                    clear hjl hj
                    have Td := Lib.hid (Ta.out.below HBJ.out)
                    have HN1 := Lib.hid (names_st Td.out.s)
                    go_wp2_with fail
                    refine HN1.out.mono ?_
                    rintro q ud ⟨A8, c8, rfl, hr, hb⟩
                    have Rd := Lib.hid hr
                    have Te := Lib.hid (Td.out.below hb)
                    clear hr hb HN1
                    have HN2 := Lib.hid (names_st Te.out.t)
                    go_wp2_with fail
                    refine HN2.out.mono ?_
                    rintro q ue ⟨A7, c7, rfl, hr, hb⟩
                    have Re := Lib.hid hr
                    have Rd2 := Lib.hid (Rd.out.below hb (Nat.le_refl _))
                    have Tf := Lib.hid (Te.out.below hb)
                    clear hr hb HN2
                    have HST := Lib.hid (strings_true rfl rfl Rd2.out Re.out)
                    unfold boolTo at HST
                    go_wp2_with fail
                    refine HST.out.mono ?_
                    rintro q uf ⟨rfl, hb⟩
                    have Tg := Lib.hid (Tf.out.below hb)
                    clear hb HST
                    go_wp2_with fail
                    go_roundw
                    case rel => exact ⟨K + 1, mx, _, _, L, by omega, by go_num, rfl, HLM.out, Tg.out⟩
                    case measure => simp [intOf]; omega
            · have e1 : (y.q == 1) = false := by simpa using h1
              clear h0 h1
              have HNX : Hid (Nxt l l) := nxt_refl
              have HLE : Hid (l.length ≤ max b (cnt l)) := by show _ ≤ _; have := HLB.out; omega
              have T9 := Lib.hid T2.out.more
              have ONX : Hid (Only (fun j => F j ∨ E j) wi wi) := Only.refl _ _
              obtain ⟨r9, m9, _⟩ := HRW.out _ ONX.out
              have R9 := Lib.hid r9; have M9 := Lib.hid m9
              clear r9 m9
              have HLN := Lib.hid (len_st T9.out.s)
              unfold vPost at HLN
              go_wp2_with fail
              refine HLN.out.mono ?_
              rintro q ua ⟨rfl, hb⟩
              have Ta := Lib.hid (T9.out.below hb)
              have Ra := Lib.hid (R9.out.below hb (Nat.le_refl _))
              have Ma := Lib.hid (M9.out.below hb (Nat.le_refl _))
              clear hb HLN
              obtain ⟨mx, hmx2⟩ : ∃ mx : Nat, mx = max b (cnt l) := ⟨_, rfl⟩
              have hmxi : max (b : Int) (cnt l : Int) = (mx : Int) := by omega
              have HLM : Hid (l.length ≤ mx) := by show _ ≤ _; rw [hmx2]; exact HLE.out
              have HMX := Lib.hid hmx2
              clear hmx2
              go_wp2_with fail
              all_goals (try (have hqq : (cnt l : Int) = (mx : Int) := (by have := HMX.out; omega); rw [hqq]; clear hqq))
              all_goals (try (have hqq : (b : Int) = (mx : Int) := (by have := HMX.out; omega); rw [hqq]; clear hqq))
              all_goals
                go_loopw [27] (fun j_ wj => ∃ j : Nat, j ≤ nn.length ∧ j_ = .int .i64 (j : Int) ∧ Below ua.heap.size ua wj) (fun j_ _ => nn.length - (intOf j_).toNat)
                case atStart => exact ⟨0, Nat.zero_le _, rfl, Below.refl _ _⟩
                case round =>
                  obtain ⟨j, hj, rfl, hbj⟩ := hrel
                  have HBJ := Lib.hid hbj
                  have hzj := hbj.size
                  clear hbj
                  by_cases hjl : j < nn.length
                  · have j3 : (j : Int) < (nn.length : Int) := by omega
                    obtain ⟨rb, ro, ra, lrb, r0⟩ := Rs_str (Ra.out.below HBJ.out (Nat.le_refl _)) hjl
                    obtain ⟨x, hx⟩ : ∃ x, x = nn[j] := ⟨_, rfl⟩
                    have hxm : x ∈ namesL l := by rw [← HNN.out, hx]; exact List.getElem_mem hjl
                    have hxs : x.size ≤ 1000000 := by have := (HFD.out x (by rw [HNN.out]; exact hxm)).2.2.2; omega
                    have hmj : (ints (nn.map (findV l)))[j]? = some (.int .i64 (findV l x)) := by unfold ints; rw [List.getElem?_map, List.getElem?_map, List.getElem?_eq_getElem hjl, hx]; rfl
                    have hx2 := hx.symm
                    rw [hx2] at r0
                    clear hx hx2
                    obtain ⟨nb, no, na, lnb, n0⟩ := (Rs.mine (Ma.out.below HBJ.out (Nat.le_refl _))).rd.at_ hmj
                    have HLT := later T1.out.iv Ta.out.iv HNX.out hxm
                    have HFI := Lib.hid (find_st (Ta.out.below HBJ.out).s x hxs)
                    unfold vPost at HFI
                    obtain ⟨V, hV⟩ : ∃ V, V = findV l x := ⟨_, rfl⟩
                    rw [← hV] at n0 HLT
                    try rw [← hV] at HFI
                    clear hV hmj
                    subst ra
                    subst na
                    rcases HLT with e9 | ⟨e0, ev, el⟩
                    · rw [e9] at HFI
                      clear e9
                      go_wp2_with fail
                      refine HFI.out.mono ?_
                      rintro q uc ⟨rfl, hb⟩
                      have Bc := Lib.hid (HBJ.out.trans (hb.mono hzj))
                      clear hb HFI
                      go_wp2_with fail
                      go_roundw
                      case rel => exact ⟨j + 1, by omega, by go_num, Bc.out⟩
                      case measure => simp [intOf]; omega
                    · rw [e0] at HFI
                      try rw [ev] at HFI
                      try rw [ev] at el
                      have hne : (V != V) = false := by simp
                      have hge : ¬ (mx : Int) ≤ V := by have := HLM.out; omega
                      clear e0 ev el
                      go_wp2_with fail
                      refine HFI.out.mono ?_
                      rintro q uc ⟨rfl, hb⟩
                      have Bc := Lib.hid (HBJ.out.trans (hb.mono hzj))
                      have n0c := (hb.cell lnb).trans n0
                      have lnc := Nat.lt_of_lt_of_le lnb hb.size
                      clear hb HFI n0 r0 lrb lnb
                      go_wp2_with fail
                      go_roundw
                      case rel => exact ⟨j + 1, by omega, by go_num, Bc.out⟩
                      case measure => simp [intOf]; omega
                  · obtain rfl : j = nn.length := by omega
                    have hnn3 : ¬ (nn.length : Int) < (nn.length : Int) := by omega
                    clear hjl hj
                    have Td := Lib.hid (Ta.out.below HBJ.out)
                    have HN1 := Lib.hid (names_st Td.out.s)
                    go_wp2_with fail
                    refine HN1.out.mono ?_
                    rintro q ud ⟨A8, c8, rfl, hr, hb⟩
                    have Rd := Lib.hid hr
                    have Te := Lib.hid (Td.out.below hb)
                    clear hr hb HN1
                    have HN2 := Lib.hid (names_st Te.out.t)
                    go_wp2_with fail
                    refine HN2.out.mono ?_
                    rintro q ue ⟨A7, c7, rfl, hr, hb⟩
                    have Re := Lib.hid hr
                    have Rd2 := Lib.hid (Rd.out.below hb (Nat.le_refl _))
                    have Tf := Lib.hid (Te.out.below hb)
                    clear hr hb HN2
                    have HST := Lib.hid (strings_true rfl rfl Rd2.out Re.out)
                    unfold boolTo at HST
                    go_wp2_with fail
                    refine HST.out.mono ?_
                    rintro q uf ⟨rfl, hb⟩
                    have Tg := Lib.hid (Tf.out.below hb)
                    clear hb HST
                    go_wp2_with fail
                    go_roundw
                    case rel => exact ⟨K + 1, mx, _, _, l, by omega, by go_num, rfl, HLM.out, Tg.out⟩
                    case measure => simp [intOf]; omega
    · obtain rfl : K = acts.length := by omega
      have hnn : ¬ (acts.length : Int) < (acts.length : Int) := by omega
      have HB := Lib.hid htb.bl
      clear hlt htb
      go_wp2_with fail
      refine (known_any _).mono ?_
      rintro q w9 ⟨rfl, hb⟩
      have HB9 := Lib.hid (HB.out.trans (hb.mono HB.out.size))
      clear hb
      go_wp2_with fail
      go_ret
      exact ⟨rfl, HB9.out⟩
end
end Go.Proofs.Ytmhbfplpodikiaa.At
