/- Proves that DecodeSplits returns true at every argument. Conditions: as the row gives them. -/
import Derived.Test.YtmphielkohnpgaaDw
namespace Go.Proofs.Ytmphielkohnpgaa.Dx
open Go.RowKit Vm Ap Vw Va Gc Fm Fw Mi Mb Fr Dm Dd Dn De Dh Dl Fo Da Df Dk Dg Dv Dw

/-- The length of the slice in a variable. -/
def mlen (q : Nat) (w : World) : Nat := match w.cell? ⟨q, 0, none⟩ with
  | some (.slice _ n _) => n
  | _ => 0
theorem mlen_of {q : Nat} {w : World} {A : Option Addr} {n c : Nat} (h : w.cell? ⟨q, 0, none⟩ = some (.slice A n c)) : mlen q w = n := by unfold mlen; rw [h]
/-- What has come so far, and what is still to come. -/
structure Sofar (m : Int) (b : Bs) (s : St) (r : Bs) (fs : List Frm) (es : List Nat) : Prop where
  done : ∃ ds : List Got, saysF fs ds ∧ es = ds.map (·.2.2) ∧ ds ++ tailG m s r = allG m b
  held : s.held.length + r.length ≤ b.length
theorem Sofar.len {m : Int} {b : Bs} {s : St} {r : Bs} {fs : List Frm} {es : List Nat} (h : Sofar m b s r fs es) (hm : okM m) : fs.length = es.length ∧ fs.length ≤ (allG m b).length ∧ (allG m b).length ≤ b.length + 1 := by
  obtain ⟨ds, h1, h2, h3⟩ := h.done
  have h4 := saysF_len h1
  have h5 : es.length = ds.length := by rw [h2, List.length_map]
  have h6 : (ds ++ tailG m s r).length = (allG m b).length := by rw [h3]
  rw [List.length_append] at h6
  exact ⟨by omega, by omega, allG_len hm b⟩
theorem Sofar.fed {m : Int} {b : Bs} {s : St} {r : Bs} {fs : List Frm} {es : List Nat} (h : Sofar m b s r fs es) (n : Nat) : Sofar m b (feed s (r.take n)) (r.drop n) fs es := by
  obtain ⟨ds, h1, h2, h3⟩ := h.done
  refine ⟨⟨ds, h1, h2, by rw [tail_feed, List.take_append_drop]; exact h3⟩, ?_⟩
  have := h.held
  unfold feed
  split
  · rw [List.length_drop]; omega
  · simp; omega
theorem Sofar.none {m : Int} {b : Bs} {s : St} {r : Bs} {fs : List Frm} {es : List Nat} (h : Sofar m b s r fs es) (h4 : (nxG m s).2.2 = 4 ∨ (nxG m s).2.2 = 14) : Sofar m b (nxS m s) r fs es := by
  rw [nx_stays s h4]; exact h
theorem Sofar.took {m : Int} {b : Bs} {s : St} {r : Bs} {fs : List Frm} {es : List Nat} (h : Sofar m b s r fs es) (hm : okM m) (h4 : (nxG m s).2.2 ≠ 4 ∧ (nxG m s).2.2 ≠ 14) (x : Frm) (hx : x.c = (nxG m s).1) (hp : x.p = (nxG m s).2.1) :
    Sofar m b (nxS m s) r (fs ++ [x]) (es ++ [(nxG m s).2.2]) ∧ es.length + 1 ≤ (allG m b).length := by
  obtain ⟨ds, h1, h2, h3⟩ := h.done
  have h5 := tail_take hm s r h4.1 h4.2
  refine ⟨⟨⟨ds ++ [nxG m s], saysF_snoc h1 _ _ ⟨hx, hp⟩, by rw [h2, List.map_append]; rfl, by rw [List.append_assoc, List.singleton_append, ← h5]; exact h3⟩, ?_⟩, ?_⟩
  · have := h.held; have := nxS_len m s; omega
  · have h6 : (ds ++ tailG m s r).length = (allG m b).length := by rw [h3]
    rw [List.length_append, h5, List.length_cons] at h6
    rw [h2, List.length_map]; omega
theorem Sofar.over {m : Int} {b : Bs} {s : St} {fs : List Frm} {es : List Nat} (h : Sofar m b s [] fs es) (h4 : (nxG m s).2.2 = 4 ∨ (nxG m s).2.2 = 14) : saysF fs (allG m b) ∧ (allG m b).map (·.2.2) = es := by
  obtain ⟨ds, h1, h2, h3⟩ := h.done
  rw [tail_end s h4, List.append_nil] at h3
  subst h3
  exact ⟨h1, h2.symm⟩
set_option maxRecDepth 100000 in
set_option maxHeartbeats 1000000 in
theorem splits_over (A : Option Addr) (b : Bs) (c : Nat) (m : Int) (v1 v2 : Value) (W : World) (h : 300 < b.length ∨ m < 0 ∨ 300 < m) :
    Calls Try.prog 5 #[.slice A b.length c, .int .i64 m, v1, v2] W (boolOf true W) := by
  have HK := known_hid
  by_cases h0 : 300 < b.length
  · have h1 : (300 : Int) < (b.length : Int) := by omega
    clear h h0
    go_enter Try.func5, Try.ntmps5
    go_wp2_with fail
    refine (HK.out _).mono ?_
    rintro e w1 ⟨rfl, hb⟩
    go_wp2_with fail
    go_ret
    exact ⟨rfl, hb⟩
  · have h1 : (b.length : Int) ≤ 300 := by omega
    by_cases h2 : m < 0
    · clear h h0
      go_enter Try.func5, Try.ntmps5
      go_wp2_with fail
      refine (HK.out _).mono ?_
      rintro e w1 ⟨rfl, hb⟩
      go_wp2_with fail
      go_ret
      exact ⟨rfl, hb⟩
    · have h3 : 0 ≤ m := by omega
      have h4 : 300 < m := by omega
      clear h h0 h2
      go_enter Try.func5, Try.ntmps5
      go_wp2_with fail
      refine (HK.out _).mono ?_
      rintro e w1 ⟨rfl, hb⟩
      go_wp2_with fail
      go_ret
      exact ⟨rfl, hb⟩
set_option maxRecDepth 100000 in
set_option maxHeartbeats 8000000 in
theorem splits_main (A : Option Addr) (b : Bs) (c : Nat) (m : Int) (Z : Option Addr) (z : Bs) (zc : Nat) (Y : Option Addr) (y : Bs) (yc : Nat) (W : World) (hA : Arg W A b c) (hZ : Arg W Z z zc) (hY : Arg W Y y yc) (hbl : b.length ≤ 300) (hm0 : 0 ≤ m) (hm3 : m ≤ 300) :
    Calls Try.prog 5 #[.slice A b.length c, .int .i64 m, .slice Z z.length zc, .slice Y y.length yc] W (boolOf true W) := by
  have HK := known_hid
  have HOK : Hid (okM m) := fun h => by rcases h with h | h <;> omega
  have hmf : ∀ (fn : Fn) (first cap : Array Value) (w : World), (Instr.makeFunc fn first cap).run Try.prog w = .ok (.func fn first cap) w := fun _ _ _ _ => rfl
  have HA := Lib.hid hA; have HZ := Lib.hid hZ; have HY := Lib.hid hY
  have hcm := hA.max; have hcl := hA.le; have hzm := hZ.max; have hzl := hZ.le; have hym := hY.max; have hyl := hY.le
  unfold maxLen at hcm hzm hym
  have h1 : (b.length : Int) ≤ 300 := by omega
  have HNW := Lib.hid (new_any m W)
  obtain ⟨N, hN⟩ : ∃ N, N = W.heap.size := ⟨_, rfl⟩
  unfold newPost at HNW
  rw [← hN] at HNW
  clear hA hZ hY
  go_enter Try.func5, Try.ntmps5
  go_wp2_with fail
  refine HNW.out.mono ?_
  rintro e w1 (⟨_, g, rfl, hd, hb⟩ | ⟨hno, _⟩)
  case' inr => exact absurd HOK.out hno
  case' inl =>
  have hz1 : N ≤ w1.heap.size := by rw [hN]; exact hb.size
  obtain ⟨w4, hw4⟩ : ∃ w4, w4 = ((w1.alloc (.cells #[.pointer (some ⟨g, 0, none⟩)] 25)).alloc (.cells #[.slice none 0 0] 48)).alloc (.cells #[.slice none 0 0] 52) := ⟨_, rfl⟩
  have hz4 : w4.heap.size = w1.heap.size + 1 + 1 + 1 := by rw [hw4]; simp
  have b4 : Below w1.heap.size w1 w4 := by rw [hw4]; exact (two_below w1 _ _).alloc (by simp; omega) _
  have HT0 : Hid (Tk N W w4 (fun j => N ≤ j ∧ j < w1.heap.size) g w1.heap.size (w1.heap.size + 1) (w1.heap.size + 1 + 1) m ⟨[], false⟩ none 0 none 0 [] []) := by
    have e0 : w4.heap[w1.heap.size]? = some (.cells #[.pointer (some ⟨g, 0, none⟩)] 25 (0, 0)) := by
      rw [hw4, heap_alloc_old _ _ (by simp; omega), heap_alloc_old _ _ (by simp)]
      exact heap_alloc_new w1 _
    have e1 : w4.heap[w1.heap.size + 1]? = some (.cells #[.slice none 0 0] 48 (0, 0)) := by
      rw [hw4, heap_alloc_old _ _ (by simp)]
      have := heap_alloc_new (w1.alloc (.cells #[.pointer (some ⟨g, 0, none⟩)] 25)) (.cells #[.slice none 0 0] 48)
      simpa using this
    have e2 : w4.heap[w1.heap.size + 1 + 1]? = some (.cells #[.slice none 0 0] 52 (0, 0)) := by
      have := heap_alloc_new ((w1.alloc (.cells #[.pointer (some ⟨g, 0, none⟩)] 25)).alloc (.cells #[.slice none 0 0] 48)) (.cells #[.slice none 0 0] 52)
      rw [← hw4] at this
      simpa using this
    refine ⟨hd.tight.below b4 (Nat.le_refl _), by rw [cell_of_row w4 _ 0 _ _ _ e0]; rfl, by rw [cell_of_row w4 _ 0 _ _ _ e1]; rfl, by rw [cell_of_row w4 _ 0 _ _ _ e2]; rfl, frozen_of_row w4 _ 0 _ _ e1, frozen_of_row w4 _ 0 _ _ e2, Outs.nil _ _, fun j hj => ⟨hj.1, by omega, by omega, by omega, by omega⟩, fun j hj => ?_, ⟨by omega, by omega, by omega, by omega, by omega, by omega⟩, hb.trans (b4.mono hz1), by omega⟩
    rcases hj with ⟨a, ha, _⟩ | ⟨a, ha, _⟩ | ⟨x, hx, _⟩
    · cases ha
    · cases ha
    · simp at hx
  have HS0 : Hid (Sofar m b ⟨[], false⟩ b [] []) := ⟨⟨[], rfl, rfl, by rw [tail_start]; rfl⟩, by simp⟩
  clear hd hb b4
  go_wp2_with fail
  rw [← hw4]
  clear hw4
  obtain ⟨q9, hq9⟩ : ∃ q9, q9 = w1.heap.size := ⟨_, rfl⟩
  obtain ⟨q11, hq11⟩ : ∃ q11, q11 = w1.heap.size + 1 := ⟨_, rfl⟩
  obtain ⟨q12, hq12⟩ : ∃ q12, q12 = w1.heap.size + 1 + 1 := ⟨_, rfl⟩
  rw [← hq12, ← hq11, ← hq9] at HT0
  rw [← hq12, ← hq11, ← hq9]
  clear hq9 hq11 hq12 hz4
  go_loopw [14, 15] (fun u i wr => ∃ (r : Bs) (iN : Nat) (RA : Option Addr) (rc : Nat) (s : St) (F : Nat → Prop) (FA : Option Addr) (fc : Nat) (EA : Option Addr) (ec : Nat) (fs : List Frm) (es : List Nat), u = .slice RA r.length rc ∧ i = .int .i64 (iN : Int) ∧ iN + r.length ≤ b.length ∧ Arg W RA r rc ∧
      Tk N W wr F g q9 q11 q12 m s FA fc EA ec fs es ∧ Sofar m b s r fs es) (fun u _ _ => lenV u)
  case atStart => exact ⟨b, 0, A, c, ⟨[], false⟩, _, none, 0, none, 0, [], [], rfl, rfl, by omega, HA.out, HT0.out, HS0.out⟩
  case round =>
    obtain ⟨r, iN, RA, rc, s, F, FA, fc, EA, ec, fs, es, rfl, rfl, hir, har, htk, hsf⟩ := hrel
    have HAR := Lib.hid har; have HTK := Lib.hid htk; have HSF := Lib.hid hsf
    have hrm := har.max; have hrl := har.le
    unfold maxLen at hrm
    have hbw := htk.bel
    have hnw := htk.nN
    have hhl := hsf.held
    clear har htk hsf
    by_cases hr0 : 0 < r.length
    · obtain ⟨rb, ro, rfl, hrb, _⟩ := HAR.out.rd hr0
      have i0 : (0 : Int) < r.length := by omega
      by_cases hz0 : 0 < z.length
      · obtain ⟨zb, zo, rfl, hzb, hzc⟩ := HZ.out.rd hz0
        have hjl : iN % z.length < z.length := Nat.mod_lt _ hz0
        have zc0 := hzc (iN % z.length) hjl
        rw [← hbw.cell (p := ⟨zb, zo + iN % z.length, none⟩) (by show zb < N; omega)] at zc0
        have iz : (0 : Int) < z.length := by omega
        have hx := z[iN % z.length].toNat_lt
        obtain ⟨n, hn⟩ : ∃ n, n = min r.length (max 1 z[iN % z.length].toNat) := ⟨_, rfl⟩
        have hnv : min (r.length : Int) (max 1 (z[iN % z.length].toNat : Int)) = (n : Int) := by omega
        have hn1 : 1 ≤ n := by omega
        have hnr : n ≤ r.length := by omega
        have HNV := Lib.hid hnv
        clear hzc hn hnv
        go_wp2_with fail
        rw [HNV.out]
        clear HNV hx
        have hx9 : ∀ v, Only F wr v → v.cell? ⟨q9, 0, none⟩ = some (.pointer (some ⟨g, 0, none⟩)) := fun v hv => by rw [hv.cell (a := ⟨q9, 0, none⟩) HTK.out.lt.1 (fun hf => (HTK.out.fl _ hf).2.2.1 rfl)]; exact HTK.out.c9
        have HFD := Lib.hid (feed_any (HTK.out.below ((Below.refl wr.heap.size wr).drew) (Nat.le_refl _)).dec (some ⟨rb, ro, none⟩) (r.take n) n rc (by rw [List.length_take]; omega) ((HAR.out.rd.take n).below (hbw.drew) (by omega)) (fun e => by cases e) (by omega) (by rw [List.length_take]; omega))
        have b1 : (n : Int) ≤ (rc : Int) := by omega
        have b2 : (0 : Int) ≤ (n : Int) := by omega
        have b3 : (n : Int) ≤ (r.length : Int) := by omega
        refine wp_region_noPanic ?_
        refine wp_region_held_drew (S := fun v => Only F wr v) (by kernel_rfl) ((Only.refl _ _).drew) (fun hHeld => ?_)
        refine wpAnyH_take (i := 0) (oi := ⟨some 63, _, _, _, _, _⟩) (v := ?_) rfl (by kernel_rfl) (by kernel_rfl) (by kernel_rfl) (fun _ _ _ h => h) (Or.inl ⟨by rfl, ?_⟩) (by assumption) ?_
        rotate_left
        · intro w hSw; go_simp; first | done | with_reducible rfl
        try simp only [Act.put, List.setIfInBounds_toArray, List.set_cons_zero, List.set_cons_succ]
        refine wpAnyH_take (i := 1) (oi := ⟨some 64, _, _, _, _, _⟩) (v := ?_) rfl (by kernel_rfl) (by kernel_rfl) (by kernel_rfl) (fun _ _ _ h => h) (Or.inl ⟨by rfl, ?_⟩) (by assumption) ?_
        rotate_left
        · intro w hSw; go_simp; first | done | with_reducible rfl
        try simp only [Act.put, List.setIfInBounds_toArray, List.set_cons_zero, List.set_cons_succ]
        refine wpAnyH_take (i := 2) (oi := ⟨some 65, _, _, _, _, _⟩) (v := ?_) rfl (by kernel_rfl) (by kernel_rfl) (by kernel_rfl) (fun _ _ _ h => h) (Or.inl ⟨by rfl, ?_⟩) (by assumption) ?_
        rotate_left
        · intro w hSw; go_simp; first | done | with_reducible rfl
        try simp only [Act.put, List.setIfInBounds_toArray, List.set_cons_zero, List.set_cons_succ]
        refine wpAnyH_take (i := 3) (oi := ⟨some 66, _, _, _, _, _⟩) (v := ?_) rfl (by kernel_rfl) (by kernel_rfl) (by kernel_rfl) (fun _ _ _ h => h) (Or.inl ⟨by rfl, ?_⟩) (by assumption) ?_
        rotate_left
        · intro w hSw; go_simp; first | done | with_reducible rfl
        try simp only [Act.put, List.setIfInBounds_toArray, List.set_cons_zero, List.set_cons_succ]
        refine wpAnyH_ready (rs := [4]) (by kernel_rfl) (by simp) ?_
        refine AllReadyH.cons (o := ⟨some 67, _, _, _, _, _⟩) rfl (fun K hK => ?_) AllReadyH.nil
        go_simp
        refine HFD.out.mono ?_
        rintro e w5 ⟨rfl, hd, ho⟩
        go_simp
        have HSO : Only F wr w5 := ⟨ho.os, ho.tape, ho.output, ho.size, ho.block⟩
        refine hK.out _ _ HSO (fun hHeld => ?_)
        clear hK K
        try simp only [Act.put, List.setIfInBounds_toArray, List.set_cons_zero, List.set_cons_succ]
        refine wpAnyH_done (by kernel_rfl) ?_ _
        refine NoPanic.normal ?_
        have HT5' := (HTK.out.below ((Below.refl wr.heap.size wr).drew) (Nat.le_refl _)).step ho hd (fun j hf => hf)
        obtain ⟨F2, hF2⟩ : ∃ F2, F2 = (fun j => More F wr.drew j ∧ j < w5.heap.size) := ⟨_, rfl⟩
        rw [← hF2] at HT5'
        obtain ⟨s2, hs2⟩ : ∃ s2, s2 = feed s (r.take n) := ⟨_, rfl⟩
        have HS5' := HSF.out.fed n
        rw [← hs2] at HT5' HS5'
        have HT5 := Lib.hid HT5'
        have HS5 := Lib.hid HS5'
        have HCT := arg_cut HAR.out n (by omega)
        clear hx9 hHeld HSO hd ho HFD hF2 hs2 HT5' HS5'
        by_cases hrc : rc = n
        · have hl2 : (r.drop n).length = 0 := by rw [List.length_drop]; omega
          have HAR2 : Hid (Arg W (some ⟨rb, ro, none⟩) (r.drop n) 0) := by
            have := HCT
            rw [hrc, cut_same, Nat.sub_self] at this; exact this
          obtain rfl := hrc
          clear HCT
          go_wp2_with fail
          go_loopw [17] (fun kv wr => ∃ (kN : Nat) (s : St) (F : Nat → Prop) (FA : Option Addr) (fc : Nat) (EA : Option Addr) (ec : Nat) (fs : List Frm) (es : List Nat), kv = .int .i64 (kN : Int) ∧ kN ≤ 256 ∧ Tk N W wr F g q9 q11 q12 m s FA fc EA ec fs es ∧ Sofar m b s (r.drop rc) fs es) (fun kv _ => 256 - (intOf kv).toNat)
          case atStart => exact ⟨0, s2, F2, FA, fc, EA, ec, fs, es, rfl, by omega, HT5.out, HS5.out⟩
          case round =>
            obtain ⟨kN, s3, F3, FA3, fc3, EA3, ec3, fs3, es3, rfl, hk256, htk3, hsf3⟩ := hrel
            have HT3 := Lib.hid htk3; have HS3 := Lib.hid hsf3
            have hbw3 := htk3.bel
            obtain ⟨hq1, hq2, hq3⟩ := hsf3.len HOK.out
            have hh3 := hsf3.held
            clear htk3 hsf3
            by_cases hy0 : 0 < y.length
            · obtain ⟨yb, yo, rfl, hyb, hyc⟩ := HY.out.rd hy0
              have hjl2 : iN % y.length < y.length := Nat.mod_lt _ hy0
              have yc0 := hyc (iN % y.length) hjl2
              rw [← hbw3.cell (p := ⟨yb, yo + iN % y.length, none⟩) (by show yb < N; omega)] at yc0
              have iy : (0 : Int) < y.length := by omega
              have hyx := y[iN % y.length].toNat_lt
              clear hyc
              by_cases hkc : kN < y[iN % y.length].toNat
              · have ik : (kN : Int) < y[iN % y.length].toNat := by omega
                have HTA := Lib.hid (take_any HOK.out (by omega) (by omega) (by omega) HT3.out)
                unfold takePost at HTA
                go_wp2_with fail
                refine HTA.out.mono ?_
                rintro e w6 (⟨h4, rfl, F', ht⟩ | ⟨hne, rfl, F', A3, c3, E3, e3, x, hx, hp, ht⟩)
                case' inl =>
                  have HT6 := Lib.hid ht
                  have HS6 := Lib.hid (HS3.out.none h4)
                  clear ht h4 HTA
                  go_wp2_with fail
                  go_roundw
                  case rel => exact ⟨r.drop rc, iN + 1, (some ⟨rb, ro, none⟩), 0, _, F', FA3, fc3, EA3, ec3, fs3, es3, by rw [hl2], by go_num, by rw [hl2]; omega, HAR2.out, HT6.out, HS6.out⟩
                  case measure => simp only [lenV]; omega
                case' inr =>
                  have HT6 := Lib.hid ht
                  have HS6 := Lib.hid (HS3.out.took HOK.out hne x hx hp).1
                  clear ht hne HTA hx hp
                  go_wp2_with fail
                  go_roundw
                  case rel => exact ⟨kN + 1, _, F', A3, c3, E3, e3, _, _, by go_num, by omega, HT6.out, HS6.out⟩
                  case measure => simp [intOf]; omega
              · have ik : (y[iN % y.length].toNat : Int) ≤ kN := by omega
                go_wp2_with fail
                go_roundw
                case rel => exact ⟨r.drop rc, iN + 1, (some ⟨rb, ro, none⟩), 0, s3, F3, FA3, fc3, EA3, ec3, fs3, es3, by rw [hl2], by go_num, by rw [hl2]; omega, HAR2.out, HT3.out, HS3.out⟩
                case measure => simp only [lenV]; omega
            · have iy : ¬ (0 : Int) < y.length := by omega
              go_wp2_with fail
              go_roundw
              case rel => exact ⟨r.drop rc, iN + 1, (some ⟨rb, ro, none⟩), 0, s3, F3, FA3, fc3, EA3, ec3, fs3, es3, by rw [hl2], by go_num, by rw [hl2]; omega, HAR2.out, HT3.out, HS3.out⟩
              case measure => simp only [lenV]; omega
        · have hl2 : (r.drop n).length = r.length - n := by rw [List.length_drop]
          have HAR2 : Hid (Arg W (some ⟨rb, ro + n, none⟩) (r.drop n) (rc - n)) := by
            have := HCT
            rw [cut_more _ _ hrc] at this; exact this
          clear HCT
          go_wp2_with fail
          go_loopw [17] (fun kv wr => ∃ (kN : Nat) (s : St) (F : Nat → Prop) (FA : Option Addr) (fc : Nat) (EA : Option Addr) (ec : Nat) (fs : List Frm) (es : List Nat), kv = .int .i64 (kN : Int) ∧ kN ≤ 256 ∧ Tk N W wr F g q9 q11 q12 m s FA fc EA ec fs es ∧ Sofar m b s (r.drop n) fs es) (fun kv _ => 256 - (intOf kv).toNat)
          case atStart => exact ⟨0, s2, F2, FA, fc, EA, ec, fs, es, rfl, by omega, HT5.out, HS5.out⟩
          case round =>
            obtain ⟨kN, s3, F3, FA3, fc3, EA3, ec3, fs3, es3, rfl, hk256, htk3, hsf3⟩ := hrel
            have HT3 := Lib.hid htk3; have HS3 := Lib.hid hsf3
            have hbw3 := htk3.bel
            obtain ⟨hq1, hq2, hq3⟩ := hsf3.len HOK.out
            have hh3 := hsf3.held
            clear htk3 hsf3
            by_cases hy0 : 0 < y.length
            · obtain ⟨yb, yo, rfl, hyb, hyc⟩ := HY.out.rd hy0
              have hjl2 : iN % y.length < y.length := Nat.mod_lt _ hy0
              have yc0 := hyc (iN % y.length) hjl2
              rw [← hbw3.cell (p := ⟨yb, yo + iN % y.length, none⟩) (by show yb < N; omega)] at yc0
              have iy : (0 : Int) < y.length := by omega
              have hyx := y[iN % y.length].toNat_lt
              clear hyc
              by_cases hkc : kN < y[iN % y.length].toNat
              · have ik : (kN : Int) < y[iN % y.length].toNat := by omega
                have HTA := Lib.hid (take_any HOK.out (by omega) (by omega) (by omega) HT3.out)
                unfold takePost at HTA
                go_wp2_with fail
                refine HTA.out.mono ?_
                rintro e w6 (⟨h4, rfl, F', ht⟩ | ⟨hne, rfl, F', A3, c3, E3, e3, x, hx, hp, ht⟩)
                case' inl =>
                  have HT6 := Lib.hid ht
                  have HS6 := Lib.hid (HS3.out.none h4)
                  clear ht h4 HTA
                  go_wp2_with fail
                  go_roundw
                  case rel => exact ⟨r.drop n, iN + 1, (some ⟨rb, ro + n, none⟩), (rc - n), _, F', FA3, fc3, EA3, ec3, fs3, es3, by rw [hl2], by go_num, by rw [hl2]; omega, HAR2.out, HT6.out, HS6.out⟩
                  case measure => simp only [lenV]; omega
                case' inr =>
                  have HT6 := Lib.hid ht
                  have HS6 := Lib.hid (HS3.out.took HOK.out hne x hx hp).1
                  clear ht hne HTA hx hp
                  go_wp2_with fail
                  go_roundw
                  case rel => exact ⟨kN + 1, _, F', A3, c3, E3, e3, _, _, by go_num, by omega, HT6.out, HS6.out⟩
                  case measure => simp [intOf]; omega
              · have ik : (y[iN % y.length].toNat : Int) ≤ kN := by omega
                go_wp2_with fail
                go_roundw
                case rel => exact ⟨r.drop n, iN + 1, (some ⟨rb, ro + n, none⟩), (rc - n), s3, F3, FA3, fc3, EA3, ec3, fs3, es3, by rw [hl2], by go_num, by rw [hl2]; omega, HAR2.out, HT3.out, HS3.out⟩
                case measure => simp only [lenV]; omega
            · have iy : ¬ (0 : Int) < y.length := by omega
              go_wp2_with fail
              go_roundw
              case rel => exact ⟨r.drop n, iN + 1, (some ⟨rb, ro + n, none⟩), (rc - n), s3, F3, FA3, fc3, EA3, ec3, fs3, es3, by rw [hl2], by go_num, by rw [hl2]; omega, HAR2.out, HT3.out, HS3.out⟩
              case measure => simp only [lenV]; omega
      · have iz : ¬ (0 : Int) < z.length := by omega
        go_wp2_with fail
        have hx9 : ∀ v, Only F wr v → v.cell? ⟨q9, 0, none⟩ = some (.pointer (some ⟨g, 0, none⟩)) := fun v hv => by rw [hv.cell (a := ⟨q9, 0, none⟩) HTK.out.lt.1 (fun hf => (HTK.out.fl _ hf).2.2.1 rfl)]; exact HTK.out.c9
        have HFD := Lib.hid (feed_any (HTK.out.below ((Below.refl wr.heap.size wr).drew) (Nat.le_refl _)).dec (some ⟨rb, ro, none⟩) (r.take 1) 1 rc (by rw [List.length_take]; omega) ((HAR.out.rd.take 1).below (hbw.drew) (by omega)) (fun e => by cases e) (by omega) (by rw [List.length_take]; omega))
        have b1 : (1 : Int) ≤ (rc : Int) := by omega
        have b2 : (0 : Int) ≤ (1 : Int) := by omega
        have b3 : (1 : Int) ≤ (r.length : Int) := by omega
        refine wp_region_noPanic ?_
        refine wp_region_held_drew (S := fun v => Only F wr v) (by kernel_rfl) ((Only.refl _ _).drew) (fun hHeld => ?_)
        refine wpAnyH_take (i := 0) (oi := ⟨some 63, _, _, _, _, _⟩) (v := ?_) rfl (by kernel_rfl) (by kernel_rfl) (by kernel_rfl) (fun _ _ _ h => h) (Or.inl ⟨by rfl, ?_⟩) (by assumption) ?_
        rotate_left
        · intro w hSw; go_simp; first | done | with_reducible rfl
        try simp only [Act.put, List.setIfInBounds_toArray, List.set_cons_zero, List.set_cons_succ]
        refine wpAnyH_take (i := 1) (oi := ⟨some 64, _, _, _, _, _⟩) (v := ?_) rfl (by kernel_rfl) (by kernel_rfl) (by kernel_rfl) (fun _ _ _ h => h) (Or.inl ⟨by rfl, ?_⟩) (by assumption) ?_
        rotate_left
        · intro w hSw; go_simp; first | done | with_reducible rfl
        try simp only [Act.put, List.setIfInBounds_toArray, List.set_cons_zero, List.set_cons_succ]
        refine wpAnyH_take (i := 2) (oi := ⟨some 65, _, _, _, _, _⟩) (v := ?_) rfl (by kernel_rfl) (by kernel_rfl) (by kernel_rfl) (fun _ _ _ h => h) (Or.inl ⟨by rfl, ?_⟩) (by assumption) ?_
        rotate_left
        · intro w hSw; go_simp; first | done | with_reducible rfl
        try simp only [Act.put, List.setIfInBounds_toArray, List.set_cons_zero, List.set_cons_succ]
        refine wpAnyH_take (i := 3) (oi := ⟨some 66, _, _, _, _, _⟩) (v := ?_) rfl (by kernel_rfl) (by kernel_rfl) (by kernel_rfl) (fun _ _ _ h => h) (Or.inl ⟨by rfl, ?_⟩) (by assumption) ?_
        rotate_left
        · intro w hSw; go_simp; first | done | with_reducible rfl
        try simp only [Act.put, List.setIfInBounds_toArray, List.set_cons_zero, List.set_cons_succ]
        refine wpAnyH_ready (rs := [4]) (by kernel_rfl) (by simp) ?_
        refine AllReadyH.cons (o := ⟨some 67, _, _, _, _, _⟩) rfl (fun K hK => ?_) AllReadyH.nil
        go_simp
        refine HFD.out.mono ?_
        rintro e w5 ⟨rfl, hd, ho⟩
        go_simp
        have HSO : Only F wr w5 := ⟨ho.os, ho.tape, ho.output, ho.size, ho.block⟩
        refine hK.out _ _ HSO (fun hHeld => ?_)
        clear hK K
        try simp only [Act.put, List.setIfInBounds_toArray, List.set_cons_zero, List.set_cons_succ]
        refine wpAnyH_done (by kernel_rfl) ?_ _
        refine NoPanic.normal ?_
        have HT5' := (HTK.out.below ((Below.refl wr.heap.size wr).drew) (Nat.le_refl _)).step ho hd (fun j hf => hf)
        obtain ⟨F2, hF2⟩ : ∃ F2, F2 = (fun j => More F wr.drew j ∧ j < w5.heap.size) := ⟨_, rfl⟩
        rw [← hF2] at HT5'
        obtain ⟨s2, hs2⟩ : ∃ s2, s2 = feed s (r.take 1) := ⟨_, rfl⟩
        have HS5' := HSF.out.fed 1
        rw [← hs2] at HT5' HS5'
        have HT5 := Lib.hid HT5'
        have HS5 := Lib.hid HS5'
        have HCT := arg_cut HAR.out 1 (by omega)
        clear hx9 hHeld HSO hd ho HFD hF2 hs2 HT5' HS5'
        by_cases hrc : rc = 1
        · have hl2 : (r.drop 1).length = 0 := by rw [List.length_drop]; omega
          have HAR2 : Hid (Arg W (some ⟨rb, ro, none⟩) (r.drop 1) 0) := by
            have := HCT
            rw [hrc, cut_same, Nat.sub_self] at this; exact this
          subst hrc
          clear HCT
          go_wp2_with fail
          go_loopw [17] (fun kv wr => ∃ (kN : Nat) (s : St) (F : Nat → Prop) (FA : Option Addr) (fc : Nat) (EA : Option Addr) (ec : Nat) (fs : List Frm) (es : List Nat), kv = .int .i64 (kN : Int) ∧ kN ≤ 256 ∧ Tk N W wr F g q9 q11 q12 m s FA fc EA ec fs es ∧ Sofar m b s (r.drop 1) fs es) (fun kv _ => 256 - (intOf kv).toNat)
          case atStart => exact ⟨0, s2, F2, FA, fc, EA, ec, fs, es, rfl, by omega, HT5.out, HS5.out⟩
          case round =>
            obtain ⟨kN, s3, F3, FA3, fc3, EA3, ec3, fs3, es3, rfl, hk256, htk3, hsf3⟩ := hrel
            have HT3 := Lib.hid htk3; have HS3 := Lib.hid hsf3
            have hbw3 := htk3.bel
            obtain ⟨hq1, hq2, hq3⟩ := hsf3.len HOK.out
            have hh3 := hsf3.held
            clear htk3 hsf3
            by_cases hy0 : 0 < y.length
            · obtain ⟨yb, yo, rfl, hyb, hyc⟩ := HY.out.rd hy0
              have hjl2 : iN % y.length < y.length := Nat.mod_lt _ hy0
              have yc0 := hyc (iN % y.length) hjl2
              rw [← hbw3.cell (p := ⟨yb, yo + iN % y.length, none⟩) (by show yb < N; omega)] at yc0
              have iy : (0 : Int) < y.length := by omega
              have hyx := y[iN % y.length].toNat_lt
              clear hyc
              by_cases hkc : kN < y[iN % y.length].toNat
              · have ik : (kN : Int) < y[iN % y.length].toNat := by omega
                have HTA := Lib.hid (take_any HOK.out (by omega) (by omega) (by omega) HT3.out)
                unfold takePost at HTA
                go_wp2_with fail
                refine HTA.out.mono ?_
                rintro e w6 (⟨h4, rfl, F', ht⟩ | ⟨hne, rfl, F', A3, c3, E3, e3, x, hx, hp, ht⟩)
                case' inl =>
                  have HT6 := Lib.hid ht
                  have HS6 := Lib.hid (HS3.out.none h4)
                  clear ht h4 HTA
                  go_wp2_with fail
                  go_roundw
                  case rel => exact ⟨r.drop 1, iN + 1, (some ⟨rb, ro, none⟩), 0, _, F', FA3, fc3, EA3, ec3, fs3, es3, by rw [hl2], by go_num, by rw [hl2]; omega, HAR2.out, HT6.out, HS6.out⟩
                  case measure => simp only [lenV]; omega
                case' inr =>
                  have HT6 := Lib.hid ht
                  have HS6 := Lib.hid (HS3.out.took HOK.out hne x hx hp).1
                  clear ht hne HTA hx hp
                  go_wp2_with fail
                  go_roundw
                  case rel => exact ⟨kN + 1, _, F', A3, c3, E3, e3, _, _, by go_num, by omega, HT6.out, HS6.out⟩
                  case measure => simp [intOf]; omega
              · have ik : (y[iN % y.length].toNat : Int) ≤ kN := by omega
                go_wp2_with fail
                go_roundw
                case rel => exact ⟨r.drop 1, iN + 1, (some ⟨rb, ro, none⟩), 0, s3, F3, FA3, fc3, EA3, ec3, fs3, es3, by rw [hl2], by go_num, by rw [hl2]; omega, HAR2.out, HT3.out, HS3.out⟩
                case measure => simp only [lenV]; omega
            · have iy : ¬ (0 : Int) < y.length := by omega
              go_wp2_with fail
              go_roundw
              case rel => exact ⟨r.drop 1, iN + 1, (some ⟨rb, ro, none⟩), 0, s3, F3, FA3, fc3, EA3, ec3, fs3, es3, by rw [hl2], by go_num, by rw [hl2]; omega, HAR2.out, HT3.out, HS3.out⟩
              case measure => simp only [lenV]; omega
        · have hl2 : (r.drop 1).length = r.length - 1 := by rw [List.length_drop]
          have HAR2 : Hid (Arg W (some ⟨rb, ro + 1, none⟩) (r.drop 1) (rc - 1)) := by
            have := HCT
            rw [cut_more _ _ hrc] at this; exact this
          clear HCT
          go_wp2_with fail
          go_loopw [17] (fun kv wr => ∃ (kN : Nat) (s : St) (F : Nat → Prop) (FA : Option Addr) (fc : Nat) (EA : Option Addr) (ec : Nat) (fs : List Frm) (es : List Nat), kv = .int .i64 (kN : Int) ∧ kN ≤ 256 ∧ Tk N W wr F g q9 q11 q12 m s FA fc EA ec fs es ∧ Sofar m b s (r.drop 1) fs es) (fun kv _ => 256 - (intOf kv).toNat)
          case atStart => exact ⟨0, s2, F2, FA, fc, EA, ec, fs, es, rfl, by omega, HT5.out, HS5.out⟩
          case round =>
            obtain ⟨kN, s3, F3, FA3, fc3, EA3, ec3, fs3, es3, rfl, hk256, htk3, hsf3⟩ := hrel
            have HT3 := Lib.hid htk3; have HS3 := Lib.hid hsf3
            have hbw3 := htk3.bel
            obtain ⟨hq1, hq2, hq3⟩ := hsf3.len HOK.out
            have hh3 := hsf3.held
            clear htk3 hsf3
            by_cases hy0 : 0 < y.length
            · obtain ⟨yb, yo, rfl, hyb, hyc⟩ := HY.out.rd hy0
              have hjl2 : iN % y.length < y.length := Nat.mod_lt _ hy0
              have yc0 := hyc (iN % y.length) hjl2
              rw [← hbw3.cell (p := ⟨yb, yo + iN % y.length, none⟩) (by show yb < N; omega)] at yc0
              have iy : (0 : Int) < y.length := by omega
              have hyx := y[iN % y.length].toNat_lt
              clear hyc
              by_cases hkc : kN < y[iN % y.length].toNat
              · have ik : (kN : Int) < y[iN % y.length].toNat := by omega
                have HTA := Lib.hid (take_any HOK.out (by omega) (by omega) (by omega) HT3.out)
                unfold takePost at HTA
                go_wp2_with fail
                refine HTA.out.mono ?_
                rintro e w6 (⟨h4, rfl, F', ht⟩ | ⟨hne, rfl, F', A3, c3, E3, e3, x, hx, hp, ht⟩)
                case' inl =>
                  have HT6 := Lib.hid ht
                  have HS6 := Lib.hid (HS3.out.none h4)
                  clear ht h4 HTA
                  go_wp2_with fail
                  go_roundw
                  case rel => exact ⟨r.drop 1, iN + 1, (some ⟨rb, ro + 1, none⟩), (rc - 1), _, F', FA3, fc3, EA3, ec3, fs3, es3, by rw [hl2], by go_num, by rw [hl2]; omega, HAR2.out, HT6.out, HS6.out⟩
                  case measure => simp only [lenV]; omega
                case' inr =>
                  have HT6 := Lib.hid ht
                  have HS6 := Lib.hid (HS3.out.took HOK.out hne x hx hp).1
                  clear ht hne HTA hx hp
                  go_wp2_with fail
                  go_roundw
                  case rel => exact ⟨kN + 1, _, F', A3, c3, E3, e3, _, _, by go_num, by omega, HT6.out, HS6.out⟩
                  case measure => simp [intOf]; omega
              · have ik : (y[iN % y.length].toNat : Int) ≤ kN := by omega
                go_wp2_with fail
                go_roundw
                case rel => exact ⟨r.drop 1, iN + 1, (some ⟨rb, ro + 1, none⟩), (rc - 1), s3, F3, FA3, fc3, EA3, ec3, fs3, es3, by rw [hl2], by go_num, by rw [hl2]; omega, HAR2.out, HT3.out, HS3.out⟩
                case measure => simp only [lenV]; omega
            · have iy : ¬ (0 : Int) < y.length := by omega
              go_wp2_with fail
              go_roundw
              case rel => exact ⟨r.drop 1, iN + 1, (some ⟨rb, ro + 1, none⟩), (rc - 1), s3, F3, FA3, fc3, EA3, ec3, fs3, es3, by rw [hl2], by go_num, by rw [hl2]; omega, HAR2.out, HT3.out, HS3.out⟩
              case measure => simp only [lenV]; omega
    · have hr1 : r = [] := List.eq_nil_of_length_eq_zero (by omega)
      subst hr1
      have i0 : ¬ (0 : Int) < (([] : Bs).length : Int) := by simp
      go_wp2_with fail
      obtain ⟨w8, hw8⟩ : ∃ w8, w8 = wr := ⟨_, rfl⟩
      go_loopw [] (fun wr => ∃ (s : St) (F : Nat → Prop) (FA : Option Addr) (fc : Nat) (EA : Option Addr) (ec : Nat) (fs : List Frm) (es : List Nat), Tk N W wr F g q9 q11 q12 m s FA fc EA ec fs es ∧ Sofar m b s [] fs es) (fun wr => (allG m b).length - mlen q12 wr)
      case atStart => exact ⟨s, F, FA, fc, EA, ec, fs, es, HTK.out, HSF.out⟩
      case round =>
        obtain ⟨s3, F3, FA3, fc3, EA3, ec3, fs3, es3, htk3, hsf3⟩ := hrel
        have HT3 := Lib.hid htk3; have HS3 := Lib.hid hsf3
        obtain ⟨hq1, hq2, hq3⟩ := hsf3.len HOK.out
        have hh3 := hsf3.held
        have hm0 := mlen_of htk3.c12
        clear htk3 hsf3
        have HTA := Lib.hid (take_any HOK.out (by omega) (by omega) (by omega) HT3.out)
        unfold takePost at HTA
        go_wp2_with fail
        refine HTA.out.mono ?_
        rintro e w6 (⟨h4, rfl, F', ht⟩ | ⟨hne, rfl, F', A3, c3, E3, e3, x, hx, hp, ht⟩)
        case' inl =>
          have HT6 := Lib.hid ht
          obtain ⟨hs1, hs2⟩ := HS3.out.over h4
          have HAL := Lib.hid (all_true A b b.length c m w6 rfl (HA.out.rd.below HT6.out.bel (by omega)) HA.out.non (by omega) HOK.out FA3 EA3 fs3 es3 es3.length es3.length fc3 ec3 (Outs.given HT6.out.outs) hs1 hs2 hq1 rfl)
          have k11 := HT6.out.c11
          have k12 := HT6.out.c12
          clear ht h4 HTA hs1 hs2
          go_wp2_with fail
          refine HAL.out.mono ?_
          rintro e w7 ⟨rfl, hb7⟩
          have HB7 : Hid (Below N W w7) := HT6.out.bel.trans (hb7.mono HT6.out.nN)
          clear hb7
          go_wp2_with fail
          refine (HK.out _).mono ?_
          rintro e w9 ⟨rfl, hb9⟩
          have HB9 : Hid (Below N W w9) := HB7.out.trans (hb9.mono (by have := HB7.out.size; omega))
          clear hb9
          go_wp2_with fail
          go_ret
          exact ⟨rfl, by rw [← hN]; exact HB9.out⟩
        case' inr =>
          have HT6 := Lib.hid ht
          obtain ⟨hs1, hs2⟩ := HS3.out.took HOK.out hne x hx hp
          have HS6 := Lib.hid hs1
          have hm1 := mlen_of ht.c12
          clear ht hne HTA hx hp hs1
          go_wp2_with fail
          go_roundw
          case rel => exact ⟨_, F', A3, c3, E3, e3, _, _, HT6.out, HS6.out⟩
          case measure => rw [hm0, hm1, List.length_append]; simp; omega
theorem splits_walk (A : Option Addr) (c : Nat) (b : Bs) (m : Int) (Z : Option Addr) (zc : Nat) (z : Bs) (Y : Option Addr) (yc : Nat) (y : Bs) (W : World) (hA : Arg W A b c) (_hm : (Lit.int .i64 m).wf = true) (hZ : Arg W Z z zc) (hY : Arg W Y y yc) :
    Calls Try.prog 5 #[.slice A b.length c, .int .i64 m, .slice Z z.length zc, .slice Y y.length yc] W (boolOf true W) := by
  by_cases h : 300 < b.length ∨ m < 0 ∨ 300 < m
  · exact splits_over A b c m _ _ W h
  · exact splits_main A b c m Z z zc Y y yc W hA hZ hY (by omega) (by omega) (by omega)
end Go.Proofs.Ytmphielkohnpgaa.Dx
