/- Proves that the law's helper looks returns true at a heap beside the specification's list. Conditions: as each theorem names them. -/
import Derived.Test.YtpalbccoiejmoaaYg
namespace Go.Proofs.Ytpalbccoiejmoaa.Yh
open Go.RowKit Ap Mi Nw Ya Yb Yc Yd Ye Yf Yg

/-- The first k numbers are greater by one. -/
def bmp (L : List Td) (k : Nat) : List Td := (L.take k).map (fun x => (x.1 + 1, x.2)) ++ L.drop k
theorem bmp_zero (L : List Td) : bmp L 0 = L := by unfold bmp; simp
theorem bmp_len (L : List Td) (k : Nat) : (bmp L k).length = L.length := by unfold bmp; simp; omega
theorem bmp_get {L : List Td} {k : Nat} (hk : k < L.length) : (bmp L k)[k]'(by rw [bmp_len]; exact hk) = L[k] := by
  unfold bmp
  rw [List.getElem_append_right (by simp; omega)]
  simp [Nat.min_eq_left (Nat.le_of_lt hk)]
theorem tv_set : ∀ (l : List Td) (k : Nat) (hk : k < l.length) (z : Int), (tv l).set (k * 2) (.int .i64 z) = tv (l.set k (z, l[k].2))
  | [], _, hk, _ => by simp at hk
  | x :: r, 0, _, z => rfl
  | x :: r, k + 1, hk, z => by
    have := tv_set r k (by simpa using hk) z
    rw [show (k + 1) * 2 = k * 2 + 1 + 1 from by omega]
    show (.int .i64 x.1 :: .int .u64 x.2 :: (tv r).set (k * 2) (.int .i64 z)) = .int .i64 x.1 :: .int .u64 x.2 :: tv (r.set k (z, (r[k]'(by simpa using hk)).2))
    rw [this]
theorem bmp_set {L : List Td} {k : Nat} (hk : k < L.length) : (bmp L k).set k (L[k].1 + 1, L[k].2) = bmp L (k + 1) := by
  unfold bmp
  rw [List.set_append_right _ _ (by simp; omega)]
  have e1 : k - ((L.take k).map (fun x : Td => (x.1 + 1, x.2))).length = 0 := by simp; omega
  rw [e1, List.take_succ_eq_append_getElem hk, List.map_append, List.append_assoc]
  congr 1
  rw [List.drop_eq_getElem_cons hk]
  rfl
set_option maxRecDepth 100000 in
set_option maxHeartbeats 2000000 in
theorem looks_is {N : Nat} {F : Nat → Prop} {w : World} {g : Nat} {A : Option Addr} {c : Nat} {L : List Td} (h : Bo N F w g A c L) (n : Int) :
    Calls Try.prog 11 #[.pointer (some ⟨g, 0, none⟩), .slice A L.length c, .int .i64 n] w (boolTo true w) := by
  have HH := Lib.hid h
  have HLL := Lib.hid (list_any h.rc)
  unfold listPost at HLL
  unfold boolTo
  have hLs := h.rc.srt.len
  have g1 : (L.length : Int) ≤ 1048576 := by omega
  have hcap := Rs.max h.li
  have hbn : ((L.length : Int) != (L.length : Int)) = false := by simp
  clear h
  go_enter Try.func11, Try.ntmps11
  go_wp2_with fail
  refine HLL.out.mono ?_
  rintro e w1 ⟨A1, c1, rfl, hm, hb⟩
  have HB1 := Lib.hid hb
  have H1 := Lib.hid (HH.out.below hb)
  have M1 := Lib.hid hm
  have hz1 := hb.size
  have HS := Lib.hid (same_true rfl (Rs.mine hm) H1.out.li (by omega))
  unfold boolTo at HS
  clear hm hb HLL
  go_wp2_with fail
  refine HS.out.mono ?_
  rintro e w2 ⟨rfl, hb⟩
  have HB2 := Lib.hid (HB1.out.trans (hb.mono hz1))
  have H2 := Lib.hid (H1.out.below hb)
  have M2 := Lib.hid (M1.out.below hb (Nat.le_refl _))
  have hz2 := HB2.out.size
  have HLN := Lib.hid (len_any H2.out.rc)
  unfold lkPost at HLN
  clear hb HS M1 H1
  go_wp2_with fail
  refine HLN.out.mono ?_
  rintro e w3 ⟨rfl, hb⟩
  have HB3 := Lib.hid (HB2.out.trans (hb.mono hz2))
  have H3 := Lib.hid (H2.out.below hb)
  have M3 : Hid (Mine w.heap.size 2 w3 A1 L.length c1 (tv (bmp L 0))) := by show Mine _ _ _ _ _ _ _; rw [bmp_zero]; exact M2.out.below hb (Nat.le_refl _)
  clear hb HLN M2 H2
  go_wp2_with fail
  go_loopw [27] (fun i wr => ∃ k : Nat, k ≤ L.length ∧ i = .int .i64 (k : Int) ∧ Mine w.heap.size 2 wr A1 L.length c1 (tv (bmp L k)) ∧ Below w.heap.size w wr) (fun i _ => L.length - (intOf i).toNat)
  case atStart => exact ⟨0, Nat.zero_le _, rfl, M3.out, HB3.out⟩
  case round =>
    obtain ⟨k, hk, rfl, hm, hb⟩ := hrel
    have MM := Lib.hid hm; have BB := Lib.hid hb
    clear hm hb
    by_cases hlt : k < L.length
    · have i1 : (k : Int) < (L.length : Int) := by omega
      obtain ⟨g5, o5, rfl, hg5, hgl⟩ := mine_place MM.out (by rw [tv_len, bmp_len]; omega)
      have hkb : k < (bmp L k).length := by rw [bmp_len]; exact hlt
      obtain ⟨t0, t1⟩ := tv_get (bmp L k) k hkb
      rw [bmp_get hlt] at t0 t1
      obtain ⟨x0, y0⟩ := mine_cell MM.out t0
      obtain ⟨z, hz⟩ : ∃ z, z = L[k].1 := ⟨_, rfl⟩
      have hzs := HH.out.rc.srt.sl L[k] (List.getElem_mem hlt)
      rw [← hz] at x0 hzs
      have hz0 : 0 ≤ z := hzs.1
      have hz1' : z < 1048576 := hzs.2
      have ES : Hid ((tv (bmp L k)).set (k * 2) (.int .i64 (z + 1)) = tv (bmp L (k + 1))) := by
        show _ = _
        rw [tv_set _ _ hkb, bmp_get hlt, hz, bmp_set hlt]
      have MP := Lib.hid (mine_put MM.out (k * 2) (.int .i64 (z + 1)) (by rw [tv_len, bmp_len]; omega) ES.out)
      have OP : Hid (Below w.heap.size w (wr.setCell ⟨g5, o5 + k * 2, none⟩ (.int .i64 (z + 1)))) := BB.out.trans (((Only.refl (fun j => w.heap.size ≤ j) wr).put (ad := ⟨g5, o5 + k * 2, none⟩) hg5 _).below (fun _ h => h) BB.out.size)
      clear hz hzs t0 t1
      go_wp2_with fail
      go_roundw
      case rel => exact ⟨k + 1, by omega, by go_num, MP.out, OP.out⟩
      case measure => simp [intOf]; omega
    · obtain rfl : k = L.length := by omega
      have hnn : ¬ (L.length : Int) < L.length := by omega
      have Hr := Lib.hid (HH.out.below BB.out)
      have hzr := BB.out.size
      by_cases hl : L = []
      · have hl0 : ¬ (0 : Int) < (L.length : Int) := by rw [hl]; simp
        have EV : Hid (tval (oldV L) = .agg #[.int .i64 0, .int .u64 0] ∧ oldN L = 9) := by rw [hl]; exact ⟨rfl, rfl⟩
        obtain ⟨v1, hv1⟩ : ∃ v1, v1 = wr.alloc (.cells #[.int .i64 0, .int .u64 0] 41) := ⟨_, rfl⟩
        have b1 : Below wr.heap.size wr v1 := by rw [hv1]; exact bnew _ _
        have P9 : Hid (Blk v1 wr.heap.size #[.int .i64 0, .int .u64 0] 41) := by show Blk _ _ _ _; rw [hv1]; exact Blk.new _ _ _
        have HLE := Lib.hid hl
        clear hl
        go_wp2_with fail
        have H1 := Lib.hid (Hr.out.below b1)
        have B1 := Lib.hid (BB.out.trans (b1.mono hzr))
        have HA := Lib.hid (at_any H1.out.li n (by omega))
        obtain ⟨i, hi⟩ : ∃ i, i = kx L n := ⟨_, rfl⟩
        have HI := Lib.hid hi
        rw [← hi] at HA
        have HF := Lib.hid (first_is H1.out.rc)
        rw [EV.out.1, EV.out.2] at HF
        unfold boolTo at HF
        rw [← hv1]
        clear hi b1 hv1
        refine HA.out.mono ?_
        rintro e v2 ⟨rfl, rfl⟩
        obtain ⟨p0, p1, _⟩ := P9.out.two
        by_cases hs : ¬ Sl n
        · have HS2 := Lib.hid (slot_no hs v2)
          have HRA : Hid (remA L n = 0) := if_neg (fun h => hs h.1)
          have HRN : Hid (remN L n = 2) := if_pos hs
          clear hs
          go_wp2_with fail
          refine HS2.out.mono ?_
          rintro e v3 ⟨rfl, rfl⟩
          go_wp2_with fail
          refine HF.out.mono ?_
          rintro e v4 ⟨rfl, hb⟩
          have HB4 := Lib.hid (B1.out.trans (hb.mono B1.out.size))
          have H4 := Lib.hid (H1.out.below hb)
          have HG := Lib.hid (gets_is H4.out.rc n (0) (2) HRA.out HRN.out)
          unfold boolTo at HG
          clear hb HF HA p0 p1
          go_wp2_with fail
          refine HG.out.mono ?_
          rintro e v5 ⟨rfl, hb⟩
          have HB5 := Lib.hid (HB4.out.trans (hb.mono HB4.out.size))
          clear hb HG
          go_wp2_with fail
          go_ret
          exact ⟨rfl, HB5.out⟩
        · have hm : n ∉ ns L := by rw [HLE.out]; simp [ns]
          have hs := Classical.not_not.1 hs
          have hni : i < 0 := by rw [HI.out]; exact kx_geq.2 hm
          have HRA : Hid (remA L n = 0) := if_neg (fun h => hm h.2)
          have HRN : Hid (remN L n = 9) := by show _ = _; unfold remN; rw [if_neg (by simpa using hs), if_neg hm]
          have HS2 := Lib.hid (slot_yes hs v2)
          clear hs hm
          go_wp2_with fail
          refine HS2.out.mono ?_
          rintro e v3 ⟨rfl, rfl⟩
          go_wp2_with fail
          refine HF.out.mono ?_
          rintro e v4 ⟨rfl, hb⟩
          have HB4 := Lib.hid (B1.out.trans (hb.mono B1.out.size))
          have H4 := Lib.hid (H1.out.below hb)
          have HG := Lib.hid (gets_is H4.out.rc n (0) (9) HRA.out HRN.out)
          unfold boolTo at HG
          clear hb HF HA p0 p1
          go_wp2_with fail
          refine HG.out.mono ?_
          rintro e v5 ⟨rfl, hb⟩
          have HB5 := Lib.hid (HB4.out.trans (hb.mono HB4.out.size))
          clear hb HG
          go_wp2_with fail
          go_ret
          exact ⟨rfl, HB5.out⟩
      · have hp := List.length_pos_iff.2 hl
        have hl0 : (0 : Int) < (L.length : Int) := by omega
        obtain ⟨tb, to_, rfl, ltb, a0, a1⟩ := Hr.out.li.at_ hp
        obtain ⟨xn, hxn⟩ : ∃ xn, xn = L[0].1 := ⟨_, rfl⟩
        obtain ⟨xa, hxa⟩ : ∃ xa, xa = L[0].2 := ⟨_, rfl⟩
        have EV : Hid (tval (oldV L) = .agg #[.int .i64 xn, .int .u64 xa] ∧ oldN L = 0) := by
          show _ ∧ _
          rw [hxn, hxa]
          cases L with
          | nil => exact absurd rfl hl
          | cons x r => exact ⟨rfl, by unfold oldN; simp⟩
        rw [← hxn] at a0; rw [← hxa] at a1
        simp only [Nat.zero_mul, Nat.add_zero] at a0 a1
        obtain ⟨v0, hv0⟩ : ∃ v0, v0 = wr.alloc (.cells #[.int .i64 0, .int .u64 0] 41) := ⟨_, rfl⟩
        have b0 : Below wr.heap.size wr v0 := by rw [hv0]; exact bnew _ _
        have a0x : (wr.alloc (.cells #[.int .i64 0, .int .u64 0] 41)).cell? ⟨tb, to_, none⟩ = some (.int .i64 xn) := by rw [← hv0]; exact (b0.cell (p := ⟨tb, to_, none⟩) ltb).trans a0
        have a1x : (wr.alloc (.cells #[.int .i64 0, .int .u64 0] 41)).cell? ⟨tb, to_ + 1, none⟩ = some (.int .u64 xa) := by rw [← hv0]; exact (b0.cell (p := ⟨tb, to_ + 1, none⟩) ltb).trans a1
        clear hxn hxa a0 a1 hp
        clear hl
        go_wp2_with fail
        obtain ⟨v1, hv1⟩ : ∃ v1, v1 = wr.alloc (.cells #[.int .i64 xn, .int .u64 xa] 41) := ⟨_, rfl⟩
        have b1 : Below wr.heap.size wr v1 := by rw [hv1]; exact bnew _ _
        have P9 : Hid (Blk v1 wr.heap.size #[.int .i64 xn, .int .u64 xa] 41) := by show Blk _ _ _ _; rw [hv1]; exact Blk.new _ _ _
        have H1 := Lib.hid (Hr.out.below b1)
        have B1 := Lib.hid (BB.out.trans (b1.mono hzr))
        have HA := Lib.hid (at_any H1.out.li n (by omega))
        obtain ⟨i, hi⟩ : ∃ i, i = kx L n := ⟨_, rfl⟩
        have HI := Lib.hid hi
        rw [← hi] at HA
        have HF := Lib.hid (first_is H1.out.rc)
        rw [EV.out.1, EV.out.2] at HF
        unfold boolTo at HF
        rw [← hv1]
        clear hi b1 hv1 hv0 b0 a0x a1x
        refine HA.out.mono ?_
        rintro e v2 ⟨rfl, rfl⟩
        obtain ⟨p0, p1, _⟩ := P9.out.two
        by_cases hs : ¬ Sl n
        · have HS2 := Lib.hid (slot_no hs v2)
          have HRA : Hid (remA L n = 0) := if_neg (fun h => hs h.1)
          have HRN : Hid (remN L n = 2) := if_pos hs
          clear hs
          go_wp2_with fail
          refine HS2.out.mono ?_
          rintro e v3 ⟨rfl, rfl⟩
          go_wp2_with fail
          refine HF.out.mono ?_
          rintro e v4 ⟨rfl, hb⟩
          have HB4 := Lib.hid (B1.out.trans (hb.mono B1.out.size))
          have H4 := Lib.hid (H1.out.below hb)
          have HG := Lib.hid (gets_is H4.out.rc n (0) (2) HRA.out HRN.out)
          unfold boolTo at HG
          clear hb HF HA p0 p1
          go_wp2_with fail
          refine HG.out.mono ?_
          rintro e v5 ⟨rfl, hb⟩
          have HB5 := Lib.hid (HB4.out.trans (hb.mono HB4.out.size))
          clear hb HG
          go_wp2_with fail
          go_ret
          exact ⟨rfl, HB5.out⟩
        · by_cases hm : n ∈ ns L
          · have hs := Classical.not_not.1 hs
            obtain ⟨k, hk, hkl, he⟩ := kx_pos hm
            rw [← HI.out] at hk
            have HRA : Hid (remA L n = L[k].2) := by show _ = _; unfold remA; rw [if_pos ⟨hs, hm⟩, tmOf_at H1.out.rc.srt.nd hkl he]
            have HRN : Hid (remN L n = 0) := by show _ = _; unfold remN; rw [if_neg (by simpa using hs), if_pos hm]
            have hni : ¬ i < 0 := by omega
            have hkk : (k : Int) < (L.length : Int) := by omega
            subst hk
            obtain ⟨y, hy⟩ : ∃ y, y = L[k].2 := ⟨_, rfl⟩
            have HY := Lib.hid hy
            rw [← hy] at HRA
            have HS2 := Lib.hid (slot_yes hs v2)
            clear hs hm he hy
            go_wp2_with fail
            refine HS2.out.mono ?_
            rintro e v3 ⟨rfl, rfl⟩
            go_wp2_with fail
            refine HF.out.mono ?_
            rintro e v4 ⟨rfl, hb⟩
            have HB4 := Lib.hid (B1.out.trans (hb.mono B1.out.size))
            have H4 := Lib.hid (H1.out.below hb)
            have HG := Lib.hid (gets_is H4.out.rc n (y) (0) HRA.out HRN.out)
            unfold boolTo at HG
            clear hb HF HA p0 p1
            obtain ⟨tb1, to1, e9, -, -, z1⟩ := H4.out.li.at_ hkl
            injection e9 with e9; injection e9 with e91 e92
            subst e91; subst e92
            rw [← HY.out] at z1
            go_wp2_with fail
            refine HG.out.mono ?_
            rintro e v5 ⟨rfl, hb⟩
            have HB5 := Lib.hid (HB4.out.trans (hb.mono HB4.out.size))
            clear hb HG
            go_wp2_with fail
            go_ret
            exact ⟨rfl, HB5.out⟩
          · have hs := Classical.not_not.1 hs
            have hni : i < 0 := by rw [HI.out]; exact kx_geq.2 hm
            have HRA : Hid (remA L n = 0) := if_neg (fun h => hm h.2)
            have HRN : Hid (remN L n = 9) := by show _ = _; unfold remN; rw [if_neg (by simpa using hs), if_neg hm]
            have HS2 := Lib.hid (slot_yes hs v2)
            clear hs hm
            go_wp2_with fail
            refine HS2.out.mono ?_
            rintro e v3 ⟨rfl, rfl⟩
            go_wp2_with fail
            refine HF.out.mono ?_
            rintro e v4 ⟨rfl, hb⟩
            have HB4 := Lib.hid (B1.out.trans (hb.mono B1.out.size))
            have H4 := Lib.hid (H1.out.below hb)
            have HG := Lib.hid (gets_is H4.out.rc n (0) (9) HRA.out HRN.out)
            unfold boolTo at HG
            clear hb HF HA p0 p1
            go_wp2_with fail
            refine HG.out.mono ?_
            rintro e v5 ⟨rfl, hb⟩
            have HB5 := Lib.hid (HB4.out.trans (hb.mono HB4.out.size))
            clear hb HG
            go_wp2_with fail
            go_ret
            exact ⟨rfl, HB5.out⟩
end Go.Proofs.Ytpalbccoiejmoaa.Yh
