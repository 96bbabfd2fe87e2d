/- Proves that DecodeHolds returns true at every argument. Conditions: as the row gives them. -/
import Derived.Test.YtmphielkohnpgaaDg
import Derived.Test.YtmphielkohnpgaaFwr
namespace Go.Proofs.Ytmphielkohnpgaa.Do
open Go.RowKit Vm Ap Vw Va Gc Fm Fw Mi Mb Fr Dm Dd Dn De Dh Dl Fo Da Df Dk Dg

theorem read_zeros (r : Bs) {m : Int} (hm : okM m) : readV (0 :: r) m = (0, [], 0, 6) := by
  have e : getAt 0 0 ((0 : UInt8) :: r) = (0, 1, 0) := by rw [getAt_end (by simp) (by decide)]; simp
  exact read_zero hm (by unfold getE; rw [e]) (by unfold getN; rw [e])
theorem rep_cons {n k : Nat} (h : k < n) : List.replicate (n - k) (0 : UInt8) = 0 :: List.replicate (n - (k + 1)) 0 := by
  rw [show n - k = n - (k + 1) + 1 from by omega, List.replicate_succ]
theorem zero_took {m : Int} (hm : okM m) {n k : Nat} (h : k < n) : nxG m ⟨List.replicate (n - k) 0, false⟩ = (0, [], 6) ∧ nxS m ⟨List.replicate (n - k) 0, false⟩ = ⟨List.replicate (n - (k + 1)) 0, false⟩ ∧ need m ⟨List.replicate (n - k) 0, false⟩ = 0 := by
  have e := read_zeros (List.replicate (n - (k + 1)) 0) hm
  unfold nxG nxS need
  simp only [Bool.false_eq_true, if_false]
  rw [rep_cons h, e]
  simp
theorem wire_short {c : UInt8} {p : Bs} {m : Int} (hm : okM m) (hp : (p.length : Int) ≤ m) {k : Nat} (h : k < (wire c p).length) : nxG m ⟨(wire c p).take k, false⟩ = (0, [], 4) ∧ nxS m ⟨(wire c p).take k, false⟩ = ⟨(wire c p).take k, false⟩ ∧
    1 ≤ need m ⟨(wire c p).take k, false⟩ ∧ need m ⟨(wire c p).take k, false⟩ ≤ (wire c p).length - k := by
  have e := read_cut c p m k hm hp h
  refine ⟨?_, ?_, ?_⟩
  · unfold nxG; simp only [Bool.false_eq_true, if_false]; rw [e]
  · unfold nxS; simp only [Bool.false_eq_true, if_false]; rw [e]; simp
  · unfold need
    simp only [Bool.false_eq_true, if_false]
    rw [e]
    by_cases h0 : getE ((wire c p).take k) = 0
    · have hm2 : m ≤ 2097152 := by unfold okM at hm; omega
      have hb : p.length + 1 < big := by unfold big; omega
      obtain ⟨x1, x2, _⟩ := get_ext ((wire c p).drop k) (l := (wire c p).take k) (by omega)
      rw [List.take_append_drop] at x1 x2
      obtain ⟨y1, y2, _⟩ := get_put (p.length + 1) (c :: p) hb
      have ew : wire c p = encN (p.length + 1) ++ (c :: p) := rfl
      rw [← ew] at y1 y2
      have hl := wire_len c p
      simp only [ne_eq, not_true, if_false, h0]
      rw [← x1, ← x2, y1, y2, List.length_take]
      omega
    · simp only [ne_eq, not_true, if_false, h0, not_false_eq_true, if_true]
      omega
theorem wire_took {c : UInt8} {p : Bs} {m : Int} (hm : okM m) (hp : (p.length : Int) ≤ m) : nxG m ⟨wire c p, false⟩ = (c, p, 0) ∧ nxS m ⟨wire c p, false⟩ = ⟨[], false⟩ ∧ need m ⟨wire c p, false⟩ = 0 := by
  have e := read_put c p [] m hm hp
  rw [List.append_nil] at e
  unfold nxG nxS need
  simp only [Bool.false_eq_true, if_false]
  rw [e]; simp
theorem okM100 : okM 100 := by unfold okM; omega
set_option maxRecDepth 100000 in
set_option maxHeartbeats 1000000 in
theorem holds_over (D : Option Addr) (l : List Frm) (d : Nat) (v : Value) (W : World) (h : 10 < l.length) :
    Calls Try.prog 7 #[.slice D l.length d, v] W (boolOf true W) := by
  have HK := known_hid
  have h1 : (10 : Int) < (l.length : Int) := by omega
  clear h
  go_enter Try.func7, Try.ntmps7
  go_wp2_with fail
  refine (HK.out _).mono ?_
  rintro e w1 ⟨rfl, hb⟩
  go_wp2_with fail
  go_ret
  exact ⟨rfl, hb⟩
set_option maxRecDepth 100000 in
set_option maxHeartbeats 8000000 in
theorem holds_main (D : Option Addr) (l : List Frm) (d : Nat) (Z : Option Addr) (zc : Nat) (z : Bs) (W : World) (ha : Frms W D l d) (hz : Arg W Z z zc) (hl : l.length ≤ 10) :
    Calls Try.prog 7 #[.slice D l.length d, .slice Z z.length zc] W (boolOf true W) := by
  have HK := known_hid
  have HD := Lib.hid ha.rd
  have HONE := Lib.hid ha.one
  have HZ := Lib.hid hz
  have h1 : (l.length : Int) ≤ 10 := by omega
  have hdm := ha.max
  have hdl := ha.le
  have hzm := hz.max
  have hzl := hz.le
  unfold maxLen at hdm hzm
  have HNW := Lib.hid (new_any 100 W)
  obtain ⟨N, hN⟩ : ∃ N, N = W.heap.size := ⟨_, rfl⟩
  unfold newPost at HNW
  rw [← hN] at HNW
  clear ha hz
  go_enter Try.func7, Try.ntmps7
  go_wp2_with fail
  refine HNW.out.mono ?_
  rintro e w1 (⟨_, g, rfl, hd, hb⟩ | ⟨hno, _⟩)
  case' inr => exact absurd okM100 hno
  case' inl =>
  have HD1 := Lib.hid hd
  have HB1 := Lib.hid hb
  clear hd hb
  go_wp2_with fail
  go_loopw [30] (fun i wr => ∃ k : Nat, k ≤ l.length ∧ i = .int .i64 (k : Int) ∧ Dec (Up N) wr g 100 ⟨[], false⟩ ∧ Below N W wr) (fun i _ => l.length - (intOf i).toNat)
  case atStart => exact ⟨0, Nat.zero_le _, rfl, HD1.out, HB1.out⟩
  case round =>
    obtain ⟨k, hk, rfl, hdk, hbw⟩ := hrel
    have HDK := Lib.hid hdk; have HBW := Lib.hid hbw
    clear hdk
    by_cases hkl : k < l.length
    · obtain ⟨tb, to_, rfl, htb, hcells⟩ := HD.out (by omega)
      obtain ⟨c0, c1⟩ := hcells k hkl
      have hxa := HONE.out _ (List.getElem_mem hkl)
      rw [← hbw.cell (p := ⟨tb, to_ + k * 2, none⟩) (by show tb < N; omega)] at c0
      rw [← hbw.cell (p := ⟨tb, to_ + k * 2 + 1, none⟩) (by show tb < N; omega)] at c1
      obtain ⟨x, hx⟩ : ∃ x, x = l[k] := ⟨_, rfl⟩
      rw [← hx] at c0 c1 hxa
      have HXA := Lib.hid hxa
      have i1 : (k : Int) < l.length := by omega
      have hxl := Nat.le_trans hxa.le hxa.max
      unfold maxLen at hxl
      obtain ⟨wa, hwa⟩ : ∃ wa, wa = wr.alloc (.cells #[.int .u8 (x.c.toNat : Int), .slice x.A x.p.length x.k] 39) := ⟨_, rfl⟩
      have ba : Below wr.heap.size wr wa := by rw [hwa]; exact below_new _ _
      have CEa : Hid (Cel wa wr.heap.size (.int .u8 (x.c.toNat : Int)) (.slice x.A x.p.length x.k)) := by show Cel _ _ _ _; rw [hwa]; exact Cel.new _ _ _ _
      have hNr : N ≤ wr.heap.size := by rw [hN]; exact hbw.size
      have HBa : Hid (Below N W wa) := hbw.trans (ba.mono hNr)
      have HDa := Lib.hid (HDK.out.tight.below ba (Nat.le_refl _))
      clear hx hxa hcells hbw ba
      by_cases h100 : 100 < x.p.length
      · have hi100 : (100 : Int) < (x.p.length : Int) := by omega
        clear h100
        go_wp2_with fail
        rw [← hwa]
        refine (HK.out _).mono ?_
        rintro e w7 ⟨rfl, hb⟩
        have HB7 : Hid (Below N W w7) := HBa.out.trans (hb.mono (by have := HBa.out.size; omega)); clear hb
        go_wp2_with fail
        go_ret
        exact ⟨rfl, by rw [← hN]; exact HB7.out⟩
      · have hi100 : (x.p.length : Int) ≤ 100 := by omega
        have hp100 : x.p.length ≤ 100 := by omega
        clear h100
        by_cases hkz : k < z.length
        · have i2 : (k : Int) < z.length := by omega
          obtain ⟨zb, zo, rfl, hzb, hzc⟩ := HZ.out.rd (by omega)
          have zc0 := hzc k hkz
          rw [← HBW.out.cell (p := ⟨zb, zo + k, none⟩) (by show zb < N; omega)] at zc0
          have hzb' : zb < wr.heap.size := by have := HBW.out.size; omega
          obtain ⟨n, hn⟩ : ∃ n : Nat, n = z[k].toNat % 4 := ⟨_, rfl⟩
          have hnv : (z[k].toNat : Int) % 4 = (n : Int) := by omega
          have hn4 : n < 4 := by omega
          obtain ⟨w3, hmk, hrz, hbz⟩ := make_zeros n wa (by omega)
          rw [← hnv, hwa] at hmk
          have HNV := Lib.hid hnv
          clear hzc hn hnv
          have hz3 : wa.heap.size ≤ w3.heap.size := hbz.size
          have hza : wa.heap.size = wr.heap.size + 1 := by rw [hwa]; simp
          rw [hza] at hrz
          have HRZ := Lib.hid hrz
          have HD3 := Lib.hid (HDa.out.below hbz (Nat.le_refl _))
          have HC3 := Lib.hid (CEa.out.below hbz (Nat.le_refl _))
          have HB3 : Hid (Below N W w3) := HBa.out.trans (hbz.mono (by have := HBa.out.size; omega))
          have HFD := Lib.hid (feed_any HD3.out (some ⟨wr.heap.size + 1, 0, none⟩) (List.replicate n 0) n n (by simp) HRZ.out (fun e => by cases e) (by simp) (by rw [List.length_replicate]; omega))
          clear hrz hbz
          go_wp2_with fail
          refine HFD.out.mono ?_
          rintro e w4 ⟨rfl, hd, ho⟩
          have HF0 : Hid (feedE ⟨[], false⟩ = 0) := rfl
          rw [HF0.out]
          have hd' : Dec (More (fun j => N ≤ j ∧ j < wr.heap.size) w3) w4 g 100 ⟨List.replicate n 0, false⟩ := by
            have e : feed ⟨[], false⟩ (List.replicate n 0) = ⟨List.replicate n 0, false⟩ := by unfold feed; simp
            rw [e] at hd; exact hd
          have HL3 := HC3.out.lt
          have HC4 := Lib.hid (cel_only HC3.out ho (fun hf => by have := hf.2; omega))
          have HB4 : Hid (Below N W w4) := HB3.out.trans (ho.below (fun j hf => hf.1) (by omega))
          have HNF : Hid (¬ More (fun j => N ≤ j ∧ j < wr.heap.size) w3 wr.heap.size) := fun hf => by rcases hf with hf | hf <;> omega
          have HFN : Hid (∀ j, More (fun j => N ≤ j ∧ j < wr.heap.size) w3 j → N ≤ j) := fun j hf => by rcases hf with hf | hf <;> omega
          obtain ⟨F, hF⟩ : ∃ F, F = More (fun j => N ≤ j ∧ j < wr.heap.size) w3 := ⟨_, rfl⟩
          rw [← hF] at hd' HNF HFN
          have HD4 := Lib.hid hd'
          have hz4 : wr.heap.size < w4.heap.size := HC4.out.lt
          have hN4 : N ≤ w4.heap.size := by omega
          obtain ⟨q, hq⟩ : ∃ q, q = wr.heap.size := ⟨_, rfl⟩
          rw [← hq] at HC4 HNF
          rw [← hq]
          clear hd ho hd' hF HFD hq
          go_wp2_with fail
          go_loopw [10] (fun i wl => ∃ j : Nat, j ≤ n ∧ i = .int .i64 (j : Int) ∧ Dec F wl g 100 ⟨List.replicate (n - j) 0, false⟩ ∧ Cel wl q (.int .u8 (x.c.toNat : Int)) (.slice x.A x.p.length x.k) ∧ Below N W wl) (fun i _ => n - (intOf i).toNat)
          case atStart => exact ⟨0, Nat.zero_le _, rfl, HD4.out, HC4.out, HB4.out⟩
          case round =>
            obtain ⟨j, hj, rfl, hdj, hcj, hbj⟩ := hrel
            have HDJ := Lib.hid hdj; have HCJ := Lib.hid hcj; have HBJ := Lib.hid hbj
            have hNl : N ≤ wr.heap.size := by have := hbj.size; omega
            clear hdj hcj hbj
            by_cases hlt : j < n
            · obtain ⟨z1, z2, z3⟩ := zero_took okM100 hlt
              have HNE := Lib.hid (need_any okM100 HDJ.out (by simp; omega))
              rw [z3] at HNE
              have i3 : (j : Int) < ((z[k].toNat : Int) % 4) := by have := HNV.out; omega
              have HZ1 := Lib.hid z1; have HZ2 := Lib.hid z2
              clear z1 z2 z3
              go_wp2_with fail
              refine HNE.out.mono ?_
              rintro e w5 ⟨rfl, hb⟩
              have HD5 := Lib.hid (HDJ.out.below hb (Nat.le_refl _))
              have HC5 := Lib.hid (HCJ.out.below hb (Nat.le_refl _))
              have HB5 : Hid (Below N W w5) := HBJ.out.trans (hb.mono hNl)
              have hN5 : N ≤ w5.heap.size := Nat.le_trans hNl hb.size
              clear hb HNE
              go_wp2_with fail
              refine (next_true okM100 HD5.out (by simp; omega) none [] 0 0 0 0 6 6 rfl (Rb.nil _ _) (fun a e => by cases e) HZ1.out rfl rfl).mono ?_
              rintro e w6 ⟨rfl, hd, ho⟩
              rw [HZ2.out] at hd
              have HD6 := Lib.hid hd
              have HC6 := Lib.hid (cel_only HC5.out ho HNF.out)
              have HB6 : Hid (Below N W w6) := HB5.out.trans (ho.below HFN.out hN5)
              clear hd ho
              go_wp2_with fail
              go_roundw
              case rel => exact ⟨j + 1, by omega, by go_num, HD6.out, HC6.out, HB6.out⟩
              case measure => simp [intOf]; omega
            · obtain rfl : j = n := by omega
              have i3 : ((z[k].toNat : Int) % 4) ≤ (j : Int) := by have := HNV.out; omega
              have HDE : Hid (Dec F wr g 100 ⟨[], false⟩) := by
                have := HDJ.out
                rw [Nat.sub_self] at this; exact this
              obtain ⟨cy0, cy1, _, _⟩ := HCJ.out
              have hql := HCJ.out.lt
              have HDt := Lib.hid (HDE.out.tight)
              go_wp2_with fail
              refine (rwrite_ok x.c x.A x.p x.k wr (HXA.out.rd.below HBJ.out (by omega)) HXA.out.non (by omega)).mono ?_
              rintro e w7 ⟨v7, rfl, h7, hb7⟩
              obtain ⟨X, xc, shX⟩ := own_shape h7
              obtain rfl := shX.val
              have SX := Lib.hid shX
              have hwp := wire_pos x.c x.p
              have hwl := wire_le x.c x.p (by omega)
              rcases own_form h7 with ⟨_, hnil⟩ | ⟨bx, cap, hv, hbx, hbx2, hcap⟩
              · exfalso; rw [hnil] at hwp; simp at hwp
              simp only [Value.slice.injEq] at hv
              obtain ⟨rfl, _, rfl⟩ := hv
              have hxm := SX.out.max
              unfold maxLen at hxm
              have HT7 : Hid (∀ k, k < (wire x.c x.p).length → _) := fun k hk => wire_short (c := x.c) (p := x.p) (m := 100) okM100 (by omega) hk
              have HT8 : Hid (_ ∧ _ ∧ _) := wire_took (c := x.c) (p := x.p) (m := 100) okM100 (by omega)
              obtain ⟨wi, hwi⟩ : ∃ wi, wi = wire x.c x.p := ⟨_, rfl⟩
              have RX7 := Lib.hid SX.out.rd
              rw [← hwi] at hwp hwl hcap HT7 HT8 RX7
              rw [← hwi]
              have HD7 := Lib.hid (HDt.out.below hb7 (Nat.le_refl _))
              have HC7 := Lib.hid (HCJ.out.below hb7 (Nat.le_refl _))
              have HB7 : Hid (Below N W w7) := HBJ.out.trans (hb7.mono hNl)
              have HN7 : Hid (¬ (F q ∧ q < wr.heap.size)) := fun hf => HNF.out hf.1
              have HN8 : Hid (¬ (F bx ∧ bx < wr.heap.size)) := fun hf => by omega
              have HN9 : Hid (∀ j, (F j ∧ j < wr.heap.size) → N ≤ j) := fun j hf => HFN.out j hf.1
              have hN7 : N ≤ w7.heap.size := Nat.le_trans hNl hb7.size
              clear h7 shX hb7 SX cy0 cy1 hwi
              go_wp2_with fail
              go_loopw [13] (fun i wm => ∃ (j : Nat) (G : Nat → Prop), j ≤ wi.length ∧ i = .int .i64 (j : Int) ∧ Dec G wm g 100 ⟨wi.take j, false⟩ ∧ ¬ G q ∧ ¬ G bx ∧ (∀ j, G j → N ≤ j) ∧ Cel wm q (.int .u8 (x.c.toNat : Int)) (.slice x.A x.p.length x.k) ∧ Rb wm (some ⟨bx, 0, none⟩) wi ∧ Below N W wm) (fun i _ => wi.length - (intOf i).toNat)
              case atStart => exact ⟨0, _, Nat.zero_le _, rfl, HD7.out, HN7.out, HN8.out, HN9.out, HC7.out, RX7.out, HB7.out⟩
              case round =>
                obtain ⟨j, G, hj, rfl, hdj, hgq, hgb, hgn, hcj, hrj, hbj⟩ := hrel
                have HDJ2 := Lib.hid hdj; have HCJ2 := Lib.hid hcj; have HBJ2 := Lib.hid hbj; have HRJ2 := Lib.hid hrj
                have HGQ := Lib.hid hgq; have HGB := Lib.hid hgb; have HGN := Lib.hid hgn
                have hNm : N ≤ wr.heap.size := by have := hbj.size; omega
                clear hdj hcj hrj hbj hgq hgb hgn
                by_cases hlt2 : j < wi.length
                · obtain ⟨z1, z2, z3, z4⟩ := HT7.out j hlt2
                  have HNE := Lib.hid (need_any okM100 HDJ2.out (by simp; omega))
                  have HZ1 := Lib.hid z1; have HZ2 := Lib.hid z2
                  have i4 : (j : Int) < wi.length := by omega
                  obtain ⟨nd, hnd⟩ : ∃ nd, nd = need 100 ⟨wi.take j, false⟩ := ⟨_, rfl⟩
                  rw [← hnd] at z3 z4 HNE
                  have d3 : ¬ (nd : Int) < 1 := by omega
                  have d4 : ¬ ((wi.length : Int) - j < nd) := by omega
                  have d3' : (1 : Int) ≤ nd := by omega
                  have d4' : (nd : Int) ≤ (wi.length : Int) - j := by omega
                  have hcj2 : ¬ xc = j := by omega
                  have HND := Lib.hid hnd
                  have hbxl : bx < wr.heap.size := by obtain ⟨b', o', e, hl, _⟩ := HRJ2.out (by omega); injection e with e; injection e with e _; omega
                  clear z1 z2 hnd
                  go_wp2_with fail
                  refine HNE.out.mono ?_
                  rintro e w8 ⟨rfl, hb8⟩
                  have HD8 := Lib.hid (HDJ2.out.below hb8 (Nat.le_refl _))
                  have HC8 := Lib.hid (HCJ2.out.below hb8 (Nat.le_refl _))
                  have HR8 := Lib.hid (HRJ2.out.below hb8 (Nat.le_refl _))
                  have HB8 : Hid (Below N W w8) := HBJ2.out.trans (hb8.mono hNm)
                  have hN8 : N ≤ w8.heap.size := Nat.le_trans hNm hb8.size
                  clear hb8 HNE
                  go_wp2_with fail
                  have HNE2 := Lib.hid (need_any okM100 HD8.out (by simp; omega))
                  rw [← HND.out] at HNE2
                  refine HNE2.out.mono ?_
                  rintro e w9 ⟨rfl, hb9⟩
                  have HD9 := Lib.hid (HD8.out.below hb9 (Nat.le_refl _))
                  have HC9 := Lib.hid (HC8.out.below hb9 (Nat.le_refl _))
                  have HR9 := Lib.hid (HR8.out.below hb9 (Nat.le_refl _))
                  have HB9 : Hid (Below N W w9) := HB8.out.trans (hb9.mono hN8)
                  have hN9 : N ≤ w9.heap.size := Nat.le_trans hN8 hb9.size
                  clear hb9 HNE2
                  go_wp2_with fail
                  refine (next_true okM100 HD9.out (by simp; omega) none [] 0 0 0 0 4 4 rfl (Rb.nil _ _) (fun a e => by cases e) HZ1.out rfl rfl).mono ?_
                  rintro e w10 ⟨rfl, hd, ho⟩
                  rw [HZ2.out] at hd
                  have HD10 := Lib.hid hd
                  have HC10 := Lib.hid (cel_only HC9.out ho HGQ.out)
                  have HR10 := Lib.hid (rb_only HR9.out ho (fun a e hf => by injection e with e; subst e; exact HGB.out hf))
                  have HB10 : Hid (Below N W w10) := HB9.out.trans (ho.below HGN.out hN9)
                  have hN10 : N ≤ w10.heap.size := Nat.le_trans hN9 ho.size
                  have HS1 : Hid (Rb w10 (some ⟨bx, j, none⟩) ((wi.drop j).take 1)) := by
                    have := Rb.sub HR10.out j 1
                    rwa [Nat.zero_add] at this
                  have HFE := Lib.hid (feed_any HD10.out (some ⟨bx, j, none⟩) ((wi.drop j).take 1) 1 (xc - j) (by simp; omega) HS1.out (fun e => by cases e) (by simp; omega) (by simp; omega))
                  clear hd ho
                  go_wp2_with fail
                  refine HFE.out.mono ?_
                  rintro e w11 ⟨rfl, hd, ho⟩
                  have HF0 : Hid (feedE ⟨wi.take j, false⟩ = 0) := rfl
                  rw [HF0.out]
                  have HF1 : feed ⟨wi.take j, false⟩ ((wi.drop j).take 1) = ⟨wi.take (j + 1), false⟩ := by
                    unfold feed
                    simp only [Bool.false_eq_true, if_false]
                    rw [List.take_add]
                  rw [HF1] at hd
                  have HD11 := Lib.hid hd
                  have hz10 := HC10.out.lt
                  have hz11 : bx < w10.heap.size := by obtain ⟨b', o', e, hl, _⟩ := HR10.out (by omega); injection e with e; injection e with e _; omega
                  have HC11 := Lib.hid (cel_only HC10.out ho HGQ.out)
                  have HR11 := Lib.hid (rb_only HR10.out ho (fun a e hf => by injection e with e; subst e; exact HGB.out hf))
                  have HB11 : Hid (Below N W w11) := HB10.out.trans (ho.below HGN.out hN10)
                  clear hd ho HF1 HFE
                  go_wp2_with fail
                  go_roundw
                  case rel =>
                    exact ⟨j + 1, More G w10, by omega, by go_num, HD11.out, (fun hf => by rcases hf with hf | hf; exact HGQ.out hf; omega), (fun hf => by rcases hf with hf | hf; exact HGB.out hf; omega), (fun i hf => by rcases hf with hf | hf; exact HGN.out i hf; omega), HC11.out, HR11.out, HB11.out⟩
                  case measure => simp [intOf]; omega
                · obtain rfl : j = wi.length := by omega
                  have i4 : (wi.length : Int) ≤ wi.length := Int.le_refl _
                  rw [List.take_length] at HDJ2
                  obtain ⟨z1, z2, z3⟩ := HT8.out
                  have HNE := Lib.hid (need_any okM100 HDJ2.out (by simp; omega))
                  rw [z3] at HNE
                  have HZ1 := Lib.hid z1; have HZ2 := Lib.hid z2
                  clear z1 z2 z3
                  go_wp2_with fail
                  refine HNE.out.mono ?_
                  rintro e w8 ⟨rfl, hb8⟩
                  have HD8 := Lib.hid (HDJ2.out.below hb8 (Nat.le_refl _))
                  have HB8 : Hid (Below N W w8) := HBJ2.out.trans (hb8.mono hNm)
                  have hN8 : N ≤ w8.heap.size := Nat.le_trans hNm hb8.size
                  obtain ⟨cv0, cv1, _, _⟩ := HCJ2.out.below hb8 (Nat.le_refl _)
                  have hq8 : q < w8.heap.size := Nat.lt_of_lt_of_le HCJ2.out.lt hb8.size
                  clear hb8 HNE
                  go_wp2_with fail
                  refine (next_true okM100 HD8.out (by simp; omega) x.A x.p x.p.length x.k x.c _ 0 0 rfl (HXA.out.rd.below HB8.out (by omega)) (fun a e h0 hf => by
                    obtain ⟨b', o', e', hl', _⟩ := HXA.out.rd h0
                    rw [e'] at e
                    injection e with e
                    subst e
                    have := HGN.out _ hf
                    simp only at this
                    omega) HZ1.out rfl rfl).mono ?_
                  rintro e w9 ⟨rfl, hd, ho⟩
                  rw [HZ2.out] at hd
                  have HD9 := Lib.hid hd
                  have HB9 : Hid (Below N W w9) := HB8.out.trans (ho.below HGN.out hN8)
                  clear hd ho
                  go_wp2_with fail
                  refine (held_any HD9.out).mono ?_
                  rintro e w10 ⟨rfl, rfl⟩
                  go_wp2_with fail
                  go_roundw
                  case rel => exact ⟨k + 1, by omega, by go_num, HD9.out.mono (fun i _ hf => HGN.out i hf), HB9.out⟩
                  case measure => simp [intOf]; omega
        · have i2 : (z.length : Int) ≤ k := by omega
          obtain ⟨n, hn⟩ : ∃ n : Nat, n = 0 := ⟨_, rfl⟩
          obtain ⟨w3, hmk0, hrz, hbz⟩ := make_zeros 0 wa (by omega)
          have hmk : (Instr.makeSlice 29 (.int .i64 0) (.int .i64 0)).run Try.prog (wr.alloc (.cells #[.int .u8 (x.c.toNat : Int), .slice x.A x.p.length x.k] 39)) = .ok (.slice (some ⟨wa.heap.size, 0, none⟩) 0 0) w3 := by
            rw [← hwa]; exact hmk0
          have HNV : Hid (True) := trivial
          rw [hwa] at hmk
          clear hmk0 hn
          have hz3 : wa.heap.size ≤ w3.heap.size := hbz.size
          have hza : wa.heap.size = wr.heap.size + 1 := by rw [hwa]; simp
          rw [hza] at hrz
          have HRZ := Lib.hid hrz
          have HD3 := Lib.hid (HDa.out.below hbz (Nat.le_refl _))
          have HC3 := Lib.hid (CEa.out.below hbz (Nat.le_refl _))
          have HB3 : Hid (Below N W w3) := HBa.out.trans (hbz.mono (by have := HBa.out.size; omega))
          have HFD := Lib.hid (feed_any HD3.out (some ⟨wr.heap.size + 1, 0, none⟩) (List.replicate 0 0) 0 0 (by simp) HRZ.out (fun e => by cases e) (by simp) (by rw [List.length_replicate]; omega))
          clear hrz hbz
          go_wp2_with fail
          refine HFD.out.mono ?_
          rintro e w4 ⟨rfl, hd, ho⟩
          have HF0 : Hid (feedE ⟨[], false⟩ = 0) := rfl
          rw [HF0.out]
          have hd' : Dec (More (fun j => N ≤ j ∧ j < wr.heap.size) w3) w4 g 100 ⟨List.replicate 0 0, false⟩ := by
            have e : feed ⟨[], false⟩ (List.replicate 0 0) = ⟨List.replicate 0 0, false⟩ := by unfold feed; simp
            rw [e] at hd; exact hd
          have HL3 := HC3.out.lt
          have HC4 := Lib.hid (cel_only HC3.out ho (fun hf => by have := hf.2; omega))
          have HB4 : Hid (Below N W w4) := HB3.out.trans (ho.below (fun j hf => hf.1) (by omega))
          have HNF : Hid (¬ More (fun j => N ≤ j ∧ j < wr.heap.size) w3 wr.heap.size) := fun hf => by rcases hf with hf | hf <;> omega
          have HFN : Hid (∀ j, More (fun j => N ≤ j ∧ j < wr.heap.size) w3 j → N ≤ j) := fun j hf => by rcases hf with hf | hf <;> omega
          obtain ⟨F, hF⟩ : ∃ F, F = More (fun j => N ≤ j ∧ j < wr.heap.size) w3 := ⟨_, rfl⟩
          rw [← hF] at hd' HNF HFN
          have HD4 := Lib.hid hd'
          have hz4 : wr.heap.size < w4.heap.size := HC4.out.lt
          have hN4 : N ≤ w4.heap.size := by omega
          obtain ⟨q, hq⟩ : ∃ q, q = wr.heap.size := ⟨_, rfl⟩
          rw [← hq] at HC4 HNF
          rw [← hq]
          clear hd ho hd' hF HFD hq
          go_wp2_with fail
          go_loopw [10] (fun i wl => i = .int .i64 0 ∧ w4 = wl) (fun _ _ => 0)
          case atStart => exact ⟨rfl, rfl⟩
          case round =>
            obtain ⟨rfl, rfl⟩ := hrel
            obtain ⟨cy0, cy1, _, _⟩ := HC4.out
            have hql := HC4.out.lt
            have HDt := Lib.hid (HD4.out.tight)
            go_wp2_with fail
            refine (rwrite_ok x.c x.A x.p x.k w4 (HXA.out.rd.below HB4.out (by omega)) HXA.out.non (by omega)).mono ?_
            rintro e w7 ⟨v7, rfl, h7, hb7⟩
            obtain ⟨X, xc, shX⟩ := own_shape h7
            obtain rfl := shX.val
            have SX := Lib.hid shX
            have hwp := wire_pos x.c x.p
            have hwl := wire_le x.c x.p (by omega)
            rcases own_form h7 with ⟨_, hnil⟩ | ⟨bx, cap, hv, hbx, hbx2, hcap⟩
            · exfalso; rw [hnil] at hwp; simp at hwp
            simp only [Value.slice.injEq] at hv
            obtain ⟨rfl, _, rfl⟩ := hv
            have hxm := SX.out.max
            unfold maxLen at hxm
            have HT7 : Hid (∀ k, k < (wire x.c x.p).length → _) := fun k hk => wire_short (c := x.c) (p := x.p) (m := 100) okM100 (by omega) hk
            have HT8 : Hid (_ ∧ _ ∧ _) := wire_took (c := x.c) (p := x.p) (m := 100) okM100 (by omega)
            obtain ⟨wi, hwi⟩ : ∃ wi, wi = wire x.c x.p := ⟨_, rfl⟩
            have RX7 := Lib.hid SX.out.rd
            rw [← hwi] at hwp hwl hcap HT7 HT8 RX7
            rw [← hwi]
            have HD7 := Lib.hid (HDt.out.below hb7 (Nat.le_refl _))
            have HC7 := Lib.hid (HC4.out.below hb7 (Nat.le_refl _))
            have HB7 : Hid (Below N W w7) := HB4.out.trans (hb7.mono hN4)
            have HN7 : Hid (¬ (F q ∧ q < w4.heap.size)) := fun hf => HNF.out hf.1
            have HN8 : Hid (¬ (F bx ∧ bx < w4.heap.size)) := fun hf => by omega
            have HN9 : Hid (∀ j, (F j ∧ j < w4.heap.size) → N ≤ j) := fun j hf => HFN.out j hf.1
            have hN7 : N ≤ w7.heap.size := Nat.le_trans hN4 hb7.size
            clear h7 shX hb7 SX cy0 cy1 hwi
            go_wp2_with fail
            go_loopw [13] (fun i wm => ∃ (j : Nat) (G : Nat → Prop), j ≤ wi.length ∧ i = .int .i64 (j : Int) ∧ Dec G wm g 100 ⟨wi.take j, false⟩ ∧ ¬ G q ∧ ¬ G bx ∧ (∀ j, G j → N ≤ j) ∧ Cel wm q (.int .u8 (x.c.toNat : Int)) (.slice x.A x.p.length x.k) ∧ Rb wm (some ⟨bx, 0, none⟩) wi ∧ Below N W wm) (fun i _ => wi.length - (intOf i).toNat)
            case atStart => exact ⟨0, _, Nat.zero_le _, rfl, HD7.out, HN7.out, HN8.out, HN9.out, HC7.out, RX7.out, HB7.out⟩
            case round =>
              obtain ⟨j, G, hj, rfl, hdj, hgq, hgb, hgn, hcj, hrj, hbj⟩ := hrel
              have HDJ2 := Lib.hid hdj; have HCJ2 := Lib.hid hcj; have HBJ2 := Lib.hid hbj; have HRJ2 := Lib.hid hrj
              have HGQ := Lib.hid hgq; have HGB := Lib.hid hgb; have HGN := Lib.hid hgn
              have hNm : N ≤ wr.heap.size := by have := hbj.size; omega
              clear hdj hcj hrj hbj hgq hgb hgn
              by_cases hlt2 : j < wi.length
              · obtain ⟨z1, z2, z3, z4⟩ := HT7.out j hlt2
                have HNE := Lib.hid (need_any okM100 HDJ2.out (by simp; omega))
                have HZ1 := Lib.hid z1; have HZ2 := Lib.hid z2
                have i4 : (j : Int) < wi.length := by omega
                obtain ⟨nd, hnd⟩ : ∃ nd, nd = need 100 ⟨wi.take j, false⟩ := ⟨_, rfl⟩
                rw [← hnd] at z3 z4 HNE
                have d3 : ¬ (nd : Int) < 1 := by omega
                have d4 : ¬ ((wi.length : Int) - j < nd) := by omega
                have d3' : (1 : Int) ≤ nd := by omega
                have d4' : (nd : Int) ≤ (wi.length : Int) - j := by omega
                have hcj2 : ¬ xc = j := by omega
                have HND := Lib.hid hnd
                have hbxl : bx < wr.heap.size := by obtain ⟨b', o', e, hl, _⟩ := HRJ2.out (by omega); injection e with e; injection e with e _; omega
                clear z1 z2 hnd
                go_wp2_with fail
                refine HNE.out.mono ?_
                rintro e w8 ⟨rfl, hb8⟩
                have HD8 := Lib.hid (HDJ2.out.below hb8 (Nat.le_refl _))
                have HC8 := Lib.hid (HCJ2.out.below hb8 (Nat.le_refl _))
                have HR8 := Lib.hid (HRJ2.out.below hb8 (Nat.le_refl _))
                have HB8 : Hid (Below N W w8) := HBJ2.out.trans (hb8.mono hNm)
                have hN8 : N ≤ w8.heap.size := Nat.le_trans hNm hb8.size
                clear hb8 HNE
                go_wp2_with fail
                have HNE2 := Lib.hid (need_any okM100 HD8.out (by simp; omega))
                rw [← HND.out] at HNE2
                refine HNE2.out.mono ?_
                rintro e w9 ⟨rfl, hb9⟩
                have HD9 := Lib.hid (HD8.out.below hb9 (Nat.le_refl _))
                have HC9 := Lib.hid (HC8.out.below hb9 (Nat.le_refl _))
                have HR9 := Lib.hid (HR8.out.below hb9 (Nat.le_refl _))
                have HB9 : Hid (Below N W w9) := HB8.out.trans (hb9.mono hN8)
                have hN9 : N ≤ w9.heap.size := Nat.le_trans hN8 hb9.size
                clear hb9 HNE2
                go_wp2_with fail
                refine (next_true okM100 HD9.out (by simp; omega) none [] 0 0 0 0 4 4 rfl (Rb.nil _ _) (fun a e => by cases e) HZ1.out rfl rfl).mono ?_
                rintro e w10 ⟨rfl, hd, ho⟩
                rw [HZ2.out] at hd
                have HD10 := Lib.hid hd
                have HC10 := Lib.hid (cel_only HC9.out ho HGQ.out)
                have HR10 := Lib.hid (rb_only HR9.out ho (fun a e hf => by injection e with e; subst e; exact HGB.out hf))
                have HB10 : Hid (Below N W w10) := HB9.out.trans (ho.below HGN.out hN9)
                have hN10 : N ≤ w10.heap.size := Nat.le_trans hN9 ho.size
                have HS1 : Hid (Rb w10 (some ⟨bx, j, none⟩) ((wi.drop j).take 1)) := by
                  have := Rb.sub HR10.out j 1
                  rwa [Nat.zero_add] at this
                have HFE := Lib.hid (feed_any HD10.out (some ⟨bx, j, none⟩) ((wi.drop j).take 1) 1 (xc - j) (by simp; omega) HS1.out (fun e => by cases e) (by simp; omega) (by simp; omega))
                clear hd ho
                go_wp2_with fail
                refine HFE.out.mono ?_
                rintro e w11 ⟨rfl, hd, ho⟩
                have HF0 : Hid (feedE ⟨wi.take j, false⟩ = 0) := rfl
                rw [HF0.out]
                have HF1 : feed ⟨wi.take j, false⟩ ((wi.drop j).take 1) = ⟨wi.take (j + 1), false⟩ := by
                  unfold feed
                  simp only [Bool.false_eq_true, if_false]
                  rw [List.take_add]
                rw [HF1] at hd
                have HD11 := Lib.hid hd
                have hz10 := HC10.out.lt
                have hz11 : bx < w10.heap.size := by obtain ⟨b', o', e, hl, _⟩ := HR10.out (by omega); injection e with e; injection e with e _; omega
                have HC11 := Lib.hid (cel_only HC10.out ho HGQ.out)
                have HR11 := Lib.hid (rb_only HR10.out ho (fun a e hf => by injection e with e; subst e; exact HGB.out hf))
                have HB11 : Hid (Below N W w11) := HB10.out.trans (ho.below HGN.out hN10)
                clear hd ho HF1 HFE
                go_wp2_with fail
                go_roundw
                case rel =>
                  exact ⟨j + 1, More G w10, by omega, by go_num, HD11.out, (fun hf => by rcases hf with hf | hf; exact HGQ.out hf; omega), (fun hf => by rcases hf with hf | hf; exact HGB.out hf; omega), (fun i hf => by rcases hf with hf | hf; exact HGN.out i hf; omega), HC11.out, HR11.out, HB11.out⟩
                case measure => simp [intOf]; omega
              · obtain rfl : j = wi.length := by omega
                have i4 : (wi.length : Int) ≤ wi.length := Int.le_refl _
                rw [List.take_length] at HDJ2
                obtain ⟨z1, z2, z3⟩ := HT8.out
                have HNE := Lib.hid (need_any okM100 HDJ2.out (by simp; omega))
                rw [z3] at HNE
                have HZ1 := Lib.hid z1; have HZ2 := Lib.hid z2
                clear z1 z2 z3
                go_wp2_with fail
                refine HNE.out.mono ?_
                rintro e w8 ⟨rfl, hb8⟩
                have HD8 := Lib.hid (HDJ2.out.below hb8 (Nat.le_refl _))
                have HB8 : Hid (Below N W w8) := HBJ2.out.trans (hb8.mono hNm)
                have hN8 : N ≤ w8.heap.size := Nat.le_trans hNm hb8.size
                obtain ⟨cv0, cv1, _, _⟩ := HCJ2.out.below hb8 (Nat.le_refl _)
                have hq8 : q < w8.heap.size := Nat.lt_of_lt_of_le HCJ2.out.lt hb8.size
                clear hb8 HNE
                go_wp2_with fail
                refine (next_true okM100 HD8.out (by simp; omega) x.A x.p x.p.length x.k x.c _ 0 0 rfl (HXA.out.rd.below HB8.out (by omega)) (fun a e h0 hf => by
                  obtain ⟨b', o', e', hl', _⟩ := HXA.out.rd h0
                  rw [e'] at e
                  injection e with e
                  subst e
                  have := HGN.out _ hf
                  simp only at this
                  omega) HZ1.out rfl rfl).mono ?_
                rintro e w9 ⟨rfl, hd, ho⟩
                rw [HZ2.out] at hd
                have HD9 := Lib.hid hd
                have HB9 : Hid (Below N W w9) := HB8.out.trans (ho.below HGN.out hN8)
                clear hd ho
                go_wp2_with fail
                refine (held_any HD9.out).mono ?_
                rintro e w10 ⟨rfl, rfl⟩
                go_wp2_with fail
                go_roundw
                case rel => exact ⟨k + 1, by omega, by go_num, HD9.out.mono (fun i _ hf => HGN.out i hf), HB9.out⟩
                case measure => simp [intOf]; omega
    · obtain rfl : k = l.length := by omega
      have hnn : ¬ (l.length : Int) < l.length := by omega
      go_wp2_with fail
      refine (HK.out _).mono ?_
      rintro e w7 ⟨rfl, hb⟩
      have HB7 : Hid (Below N W w7) := HBW.out.trans (hb.mono (by have := HBW.out.size; omega)); clear hb
      go_wp2_with fail
      go_ret
      exact ⟨rfl, by rw [← hN]; exact HB7.out⟩
theorem holds_walk (D : Option Addr) (d : Nat) (l : List Frm) (Z : Option Addr) (zc : Nat) (z : Bs) (W : World) (ha : Frms W D l d) (hz : Arg W Z z zc) :
    Calls Try.prog 7 #[.slice D l.length d, .slice Z z.length zc] W (boolOf true W) := by
  by_cases h : 10 < l.length
  · exact holds_over D l d _ W h
  · exact holds_main D l d Z zc z W ha hz (by omega)
end Go.Proofs.Ytmphielkohnpgaa.Do
