/- Proves that FrameRows returns true at every argument. Conditions: as the row gives them. -/
import Derived.Test.YthaelepggckdbaaFdr
import Derived.Test.YthaelepggckdbaaFo
import Derived.Test.YthaelepggckdbaaGi
namespace Go.Proofs.Ythaelepggckdbaa.Ft
open Go.RowKit Vm Ap Vw Va Vr Gc Fm Fc Fw Fr Frr Fh Fk Fdr Gi Fo

/-- The bytes of frames, one after the other. -/
def encs (l : List Frm) : Bs := l.flatMap fun x => wire x.c x.p
theorem encs_take {l : List Frm} {k : Nat} (h : k < l.length) : encs (l.take (k + 1)) = encs (l.take k) ++ wire l[k].c l[k].p := by
  unfold encs; rw [List.take_succ_eq_append_getElem h, List.flatMap_append]; simp
theorem encs_nil {l : List Frm} (h : encs l = []) : l = [] := by
  cases l with
  | nil => rfl
  | cons x r =>
    have e : encs (x :: r) = wire x.c x.p ++ encs r := by unfold encs; rw [List.flatMap_cons]
    have h2 := congrArg List.length h
    have := wire_pos x.c x.p
    rw [e, List.length_append, List.length_nil] at h2
    omega
theorem encs_split (l : List Frm) (k : Nat) : encs l = encs (l.take k) ++ encs (l.drop k) := by
  unfold encs; rw [← List.flatMap_append, List.take_append_drop]
theorem encs_drop {l : List Frm} {k : Nat} (h : k < l.length) : (encs l).drop (encs (l.take k)).length = wire l[k].c l[k].p ++ encs (l.drop (k + 1)) := by
  rw [encs_split l k, List.drop_left, List.drop_eq_getElem_cons h]; rfl
theorem encs_le (l : List Frm) (k : Nat) : (encs (l.take k)).length ≤ (encs l).length := by
  rw [encs_split l k, List.length_append]; omega
theorem encs_len : ∀ (l : List Frm), (∀ x ∈ l, x.p.length ≤ 100) → (encs l).length ≤ 111 * l.length
  | [], _ => by simp [encs]
  | x :: r, h => by
    have h1 := encs_len r (fun y hy => h y (by simp [hy]))
    have h2 := wire_le x.c x.p (by have := h x (by simp); omega)
    have h3 := h x (by simp)
    have e : encs (x :: r) = wire x.c x.p ++ encs r := by unfold encs; rw [List.flatMap_cons]
    rw [e, List.length_append, List.length_cons]; omega
theorem take_all {l : List Frm} {P : Frm → Prop} {k : Nat} (h : k < l.length) (h1 : ∀ x ∈ l.take k, P x) (h2 : P l[k]) : ∀ x ∈ l.take (k + 1), P x := by
  rw [List.take_succ_eq_append_getElem h]
  intro x hx
  rcases List.mem_append.1 hx with hx | hx
  · exact h1 x hx
  · rw [List.mem_singleton.1 hx]; exact h2
/-- Where the i-th frame ends. -/
def endV (l : List Frm) (i : Nat) : Value := .int .i64 ((encs (l.take (i + 1))).length : Int)
def endsV (l : List Frm) (k : Nat) : List Value := (List.range k).map (endV l)
theorem ends_snoc (l : List Frm) (k : Nat) : endsV l (k + 1) = endsV l k ++ [endV l k] := by
  unfold endsV; rw [List.range_succ, List.map_append]; rfl
set_option maxRecDepth 100000 in
set_option maxHeartbeats 1000000 in
theorem rows_over (D : Option Addr) (l : List Frm) (d : Nat) (n : Int) (W : World) (h : 20 < l.length) :
    Calls Try.prog 6 #[.slice D l.length d, .int .u8 n] W (boolOf true W) := by
  have HK := known_hid
  have h1 : (20 : Int) < (l.length : Int) := by omega
  clear h
  go_enter Try.func6, Try.ntmps6
  go_wp2_with fail
  refine (HK.out _).mono ?_
  rintro e w1 ⟨rfl, hb⟩
  go_wp2_with fail
  go_ret
  exact ⟨rfl, hb⟩

set_option maxRecDepth 100000 in
set_option maxHeartbeats 8000000 in
theorem rows_main (D : Option Addr) (l : List Frm) (d : Nat) (cut : Nat) (W : World) (ha : Frms W D l d) (hl : l.length ≤ 20) (hcu : cut < 256) :
    Calls Try.prog 6 #[.slice D l.length d, .int .u8 (cut : Int)] W (boolOf true W) := by
  have HK := known_hid
  have HD := Lib.hid ha.rd
  have HONE := Lib.hid ha.one
  have h1 : (l.length : Int) ≤ 20 := by omega
  have hdm := ha.max
  have hdl := ha.le
  unfold maxLen at hdm
  clear ha
  go_enter Try.func6, Try.ntmps6
  go_wp2_with fail
  go_loopw [5, 6, 20] (fun u v i wr => ∃ k : Nat, k ≤ l.length ∧ i = .int .i64 (k : Int) ∧ Own W.heap.size wr u (encs (l.take k)) ∧ OwnI W.heap.size wr v k (endsV l k) ∧ (∀ x ∈ l.take k, x.p.length ≤ 100) ∧ Below W.heap.size W wr) (fun _ _ i _ => l.length - (intOf i).toNat)
  case atStart => exact ⟨0, Nat.zero_le _, rfl, own_nil _ _, World.ownsRow_nil _ _ _ _, by simp, Below.refl _ _⟩
  case round =>
    obtain ⟨k, hk, rfl, hown, hoi, hsm, hbw⟩ := hrel
    have hel := encs_len (l.take k) hsm
    have htl := List.length_take_le k l
    obtain ⟨ea, hea⟩ : ∃ ea, ea = encs (l.take k) := ⟨_, rfl⟩
    rw [← hea] at hown hel
    have hel2 : ea.length ≤ 2220 := by omega
    have HEA := Lib.hid hea
    obtain ⟨V, vc, shV⟩ := own_shape hown
    obtain rfl := shV.val
    obtain ⟨EA, ecap, hev⟩ := ownI_shape hoi
    subst hev
    have HO := Lib.hid hown
    have HOI := Lib.hid hoi
    have HSM := Lib.hid hsm
    have HBW := Lib.hid hbw
    clear hown hoi hsm shV hea hel htl
    by_cases hkl : k < l.length
    · obtain ⟨tb, to_, rfl, htb, hcells⟩ := HD.out (by omega)
      obtain ⟨c0, c1⟩ := hcells k hkl
      have hxa := HONE.out _ (List.getElem_mem hkl)
      rw [← hbw.cell (p := ⟨tb, to_ + k * 2, none⟩) htb] at c0
      rw [← hbw.cell (p := ⟨tb, to_ + k * 2 + 1, none⟩) htb] at c1
      have HTK := Lib.hid (encs_take hkl)
      obtain ⟨x, hx⟩ : ∃ x, x = l[k] := ⟨_, rfl⟩
      rw [← hx] at c0 c1 hxa HTK
      have HX := Lib.hid hx
      have hxl := Nat.le_trans hxa.le hxa.max
      unfold maxLen at hxl
      have i1 : (k : Int) < l.length := by omega
      obtain ⟨wa, hwa⟩ : ∃ wa, wa = wr.alloc (.cells #[.int .u8 (x.c.toNat : Int), .slice x.A x.p.length x.k] 24) := ⟨_, rfl⟩
      have ba : Below wr.heap.size wr wa := by rw [hwa]; exact alloc_below _ _
      have HBa : Hid (Below W.heap.size W wa) := step0 HBW.out ba
      have CEa : Cel wa wr.heap.size (.int .u8 (x.c.toNat : Int)) (.slice x.A x.p.length x.k) := by rw [hwa]; exact Cel.new _ _ _ _
      have HOa := Lib.hid (own_below HO.out ba (Nat.le_refl _))
      have HOIa := Lib.hid (ownI_below HOI.out ba (Nat.le_refl _))
      have RXa := Lib.hid (hxa.rd.below HBa.out (Nat.le_refl _))
      have HXN := Lib.hid hxa.non
      have HCEa := Lib.hid CEa
      clear hx hxa hcells hbw ba CEa
      by_cases h100 : 100 < x.p.length
      · have hi100 : (100 : Int) < (x.p.length : Int) := by omega
        clear h100
        go_wp2_with fail
        rw [← hwa]
        refine (HK.out _).mono ?_
        rintro e w7 ⟨rfl, hb⟩
        have HB7 := Lib.hid (step0 HBa.out hb); clear hb
        go_wp2_with fail
        go_ret
        exact ⟨rfl, HB7.out⟩
      · have hi100 : (x.p.length : Int) ≤ 100 := by omega
        have hp100 : x.p.length ≤ 100 := by omega
        have HWR := Lib.hid (fwrite_ok x.c x.A x.p x.k wa RXa.out HXN.out (by omega))
        have hwl := wire_le x.c x.p (by omega)
        obtain ⟨wi, hwi⟩ : ∃ wi, wi = wire x.c x.p := ⟨_, rfl⟩
        rw [← hwi] at HWR HTK hwl
        obtain ⟨eb, heb⟩ : ∃ eb, eb = ea ++ wi := ⟨_, rfl⟩
        have hebl : eb.length ≤ 4000 := by rw [heb, List.length_append]; omega
        have HEB := Lib.hid heb
        have HENC : Hid (encs (l.take (k + 1)) = eb) := by show _ = _; rw [HTK.out, heb, HEA.out]
        have HX2 : Hid (∀ y ∈ l.take (k + 1), y.p.length ≤ 100) := take_all hkl HSM.out (by rw [← HX.out]; exact hp100)
        clear h100 hwi heb
        go_wp2_with fail
        rw [← hwa]
        clear hwa c0 c1
        refine HWR.out.mono ?_
        rintro e w2 ⟨v8, rfl, h8, hb⟩
        obtain ⟨P8, q8, sh8⟩ := own_shape h8
        obtain rfl := sh8.val
        have SP := Lib.hid sh8
        have HB2 := Lib.hid (step0 HBa.out hb)
        have HO2 := Lib.hid (own_below HOa.out hb (Nat.le_refl _))
        have HOI2 := Lib.hid (ownI_below HOIa.out hb (Nat.le_refl _))
        have hz2 := HB2.out.size
        clear h8 hb sh8 HWR
        go_wp2_with (at_builtin; (refine wpList_from rfl _ _ rfl rfl HO2.out wi P8 q8 rfl SP.out.non SP.out.rd (by omega) (by omega) hz2 ?_))
        intro v3 w3 h3 g3
        have h3' : Own W.heap.size w3 v3 eb := by rw [HEB.out]; exact h3
        have HOI3 := Lib.hid (show OwnI W.heap.size w3 _ k (endsV l k) from World.ownsRow.kept HOI2.out g3 (apart HO2.out HOI2.out))
        have HB3 := Lib.hid (HB2.out.grown g3 hz2 (fun k e => (World.ownsRow.lt HO2.out k e).1))
        obtain ⟨V3, c3, sh3⟩ := own_shape h3'
        obtain rfl := sh3.val
        have HO3 := Lib.hid h3'
        have hz3 := HB3.out.size
        clear h3 h3' g3 sh3
        go_wp2_with (at_builtin; (refine wpList_app rfl _ _ elI rfl rfl (own_rowI HOI3.out) #[.int .i64 (eb.length : Int)] rfl (one_cell _ _) (by omega) (by show 1 ≤ 1000000000; omega) hz3 ?_))
        intro v4 w4 h4 g4
        have HOI4 : Hid (OwnI W.heap.size w4 v4 (k + 1) (endsV l (k + 1))) := by
          show w4.ownsRow _ _ _ _ _ _
          rw [ends_snoc, endV, HENC.out]
          exact h4
        have HO4 : Hid (Own W.heap.size w4 (.slice V3 eb.length c3) (encs (l.take (k + 1)))) := by
          show Own _ _ _ _
          rw [HENC.out]
          exact own_grown HO3.out g4 (apart' HO3.out HOI3.out)
        have HB4 := Lib.hid (HB3.out.grown g4 hz3 (fun k e => (World.ownsRow.lt HOI3.out k e).1))
        clear h4 g4
        go_wp2_with fail
        go_roundw
        case rel => exact ⟨k + 1, by omega, by go_num, HO4.out, HOI4.out, HX2.out, HB4.out⟩
        case measure => simp [intOf]; omega
    · obtain rfl : k = l.length := by omega
      have hnn : ¬ (l.length : Int) < l.length := by omega
      have hfo := own_form HO.out
      rcases hfo with ⟨hv, hnil⟩ | ⟨g, cap, hv, hBg, hgl, hcap⟩
      · have HL0 : l = [] := encs_nil (by have := HEA.out; rw [hnil, List.take_length] at this; exact this.symm)
        subst HL0
        simp only [Value.slice.injEq] at hv
        obtain ⟨rfl, hz, rfl⟩ := hv
        subst hnil
        clear hz
        have HR : readV [] 100 = (0, [], 0, 4) := by decide +kernel
        have HRV := Lib.hid HR
        have hcut : (max 0 (-(cut : Int))).toNat = 0 := by omega
        have HCUT := Lib.hid hcut
        clear HR hcut
        go_wp2_with fail
        rw [HCUT.out]
        obtain ⟨w5, rfl⟩ : ∃ w5, w5 = wr := ⟨wr, rfl⟩
        go_loopw [11, 55] (fun a i wr => a = .int .i64 0 ∧ i = .int .i64 0 ∧ w5 = wr) (fun _ _ _ => 0)
        case atStart => exact ⟨rfl, rfl, rfl⟩
        case round =>
          obtain ⟨rfl, rfl, rfl⟩ := hrel
          go_wp2_with fail
          refine (reads_true none none [] [] 0 0 0 0 0 100 0 0 4 0 4 _ rfl rfl (Rb.nil _ _) (by simp) (Nat.zero_le _) (by omega) (by omega) (Rb.nil _ _) HRV.out rfl rfl rfl).mono ?_
          rintro e w6 ⟨rfl, hb⟩
          have HB6 := Lib.hid (step0 HBW.out hb)
          clear hb
          go_wp2_with fail
          refine (HK.out _).mono ?_
          rintro e w7 ⟨rfl, hb⟩
          have HB7 := Lib.hid (step0 HB6.out hb)
          clear hb
          go_wp2_with fail
          go_ret
          exact ⟨rfl, HB7.out⟩
      · simp only [Value.slice.injEq] at hv
        obtain ⟨rfl, _, rfl⟩ := hv
        have HEAL : Hid (ea = encs l) := by show _ = _; rw [HEA.out, List.take_length]
        have hea0 : (encs l).length = ea.length := by rw [HEAL.out]
        have hcut : (max 0 ((ea.length : Int) - (cut : Int))).toNat = ea.length - cut := by omega
        have HCUT := Lib.hid hcut
        have hvm : vc ≤ maxLen := by obtain ⟨_, _, s⟩ := own_shape HO.out; have e := s.val; injection e with e1 e2 e3; rw [e3]; exact s.max
        unfold maxLen at hvm
        have RB := Lib.hid (Rb.of_own HO.out)
        clear hcut
        go_wp2_with fail
        rw [HCUT.out]
        obtain ⟨n, hn⟩ : ∃ n, n = ea.length - cut := ⟨_, rfl⟩
        rw [← hn]
        have hnl : n ≤ ea.length := by omega
        clear hn HCUT
        obtain ⟨w5, rfl⟩ : ∃ w5, w5 = wr := ⟨wr, rfl⟩
        go_loopw [11, 55] (fun a i wr => ∃ k : Nat, k ≤ l.length ∧ i = .int .i64 (k : Int) ∧ a = .int .i64 ((encs (l.take k)).length : Int) ∧ (encs (l.take k)).length ≤ n ∧ Below w5.heap.size w5 wr) (fun _ i _ => l.length - (intOf i).toNat)
        case atStart => exact ⟨0, Nat.zero_le _, rfl, rfl, Nat.zero_le _, Below.refl _ _⟩
        case round =>
          obtain ⟨k, hk, rfl, rfl, hak, hbr⟩ := hrel
          have HBR := Lib.hid hbr
          have HBWr := Lib.hid (step0 HBW.out hbr)
          by_cases hkl : k < l.length
          · obtain ⟨tb, to_, rfl, htb, hcells⟩ := HD.out (by omega)
            obtain ⟨c0, c1⟩ := hcells k hkl
            have hxa := HONE.out _ (List.getElem_mem hkl)
            have hx100 := HSM.out l[k] (by rw [List.take_length]; exact List.getElem_mem hkl)
            rw [← HBWr.out.cell (p := ⟨tb, to_ + k * 2, none⟩) htb] at c0
            rw [← HBWr.out.cell (p := ⟨tb, to_ + k * 2 + 1, none⟩) htb] at c1
            have hdrop := encs_drop hkl
            have htk := encs_take hkl
            have hle1 := encs_le l (k + 1)
            obtain ⟨eg, hEA, heg, hec, hem, hends⟩ := ownI_cell HOI.out (by omega)
            subst hEA
            have hce := hends k (by simp [endsV]; exact hkl)
            have hee : (endsV l l.length)[k]'(by simp [endsV]; exact hkl) = .int .i64 ((encs (l.take (k + 1))).length : Int) := by simp [endsV, endV]
            rw [hee, htk, List.length_append] at hce
            rw [htk, List.length_append] at hle1
            rw [← HEAL.out] at hdrop hle1
            rw [← hbr.cell (p := ⟨eg, k, none⟩) heg] at hce
            obtain ⟨x, hx⟩ : ∃ x, x = l[k] := ⟨_, rfl⟩
            rw [← hx] at c0 c1 hxa hdrop hle1 hce hx100
            have hwp := wire_pos x.c x.p
            have HENC : Hid ((encs (l.take (k + 1))).length = (encs (l.take k)).length + (wire x.c x.p).length) := by show _ = _; rw [htk, List.length_append, hx]
            have i1 : (k : Int) < l.length := by omega
            have hxl := Nat.le_trans hxa.le hxa.max
            unfold maxLen at hxl hem
            generalize (encs (l.take k)).length = a at *
            obtain ⟨rest, hrest⟩ : ∃ rest, rest = encs (l.drop (k + 1)) := ⟨_, rfl⟩
            rw [← hrest] at hdrop
            obtain ⟨wi, hwi⟩ : ∃ wi, wi = wire x.c x.p := ⟨_, rfl⟩
            rw [← hwi] at hce hdrop hle1 hwp HENC
            have hne : ¬ vc = a := by omega
            obtain ⟨m, hm⟩ : ∃ m, m = (ea.drop a).take (n - a) := ⟨_, rfl⟩
            have HML : Hid (m.length = n - a) := by show _ = _; rw [hm, List.length_take, List.length_drop]; omega
            have HSH : Hid (n < a + wi.length → readV m 100 = (0, [], 0, 4)) := fun h => by
              rw [hm, hdrop, List.take_append_of_le_length (by omega), hwi]
              exact read_cut x.c x.p 100 (n - a) (by omega) (by omega) (by rw [← hwi]; omega)
            have HOK : Hid (a + wi.length ≤ n → readV m 100 = (x.c, x.p, wi.length, 0)) := fun h => by
              rw [hm, hdrop, List.take_append, List.take_of_length_le (by omega), hwi]
              exact read_put x.c x.p _ 100 (by omega) (by omega)
            obtain ⟨wa, hwa⟩ : ∃ wa, wa = wr.alloc (.cells #[.int .u8 (x.c.toNat : Int), .slice x.A x.p.length x.k] 24) := ⟨_, rfl⟩
            have ba : Below wr.heap.size wr wa := by rw [hwa]; exact alloc_below _ _
            have HBa : Hid (Below w5.heap.size w5 wa) := step0 hbr ba
            have CEa : Hid (Cel wa wr.heap.size (.int .u8 (x.c.toNat : Int)) (.slice x.A x.p.length x.k)) := by rw [hwa]; exact Cel.new _ _ _ _
            have RXa := Lib.hid (hxa.rd.below (HBW.out.trans (HBa.out.mono HBW.out.size)) (Nat.le_refl _))
            have RM : Hid (Rb wa (some ⟨g, a, none⟩) m) := by
              have := Rb.sub (RB.out.below HBa.out (Nat.le_refl _)) a (n - a)
              rw [Nat.zero_add, ← hm] at this
              exact this
            have hcea : wa.cell? ⟨eg, k, none⟩ = some (.int .i64 ((a + wi.length : Nat) : Int)) := by
              rw [HBa.out.cell (p := ⟨eg, k, none⟩) heg, ← hbr.cell (p := ⟨eg, k, none⟩) heg]; exact hce
            have HCE := Lib.hid hcea
            have heg2 : eg < wr.heap.size := Nat.lt_of_lt_of_le heg hbr.size
            clear hx hxa hcells ba hdrop htk hrest hwi hm hends hee hbr hcea
            by_cases hE : n < a + wi.length
            · have hE1 : (n : Int) < (a : Int) + wi.length := by omega
              have HV := Lib.hid (HSH.out hE)
              clear hE
              go_wp2_with fail
              rw [← hwa]
              clear hwa c0 c1
              refine (reads_true (some ⟨g, a, none⟩) none m [] (n - a) (vc - a) 0 0 0 100 0 0 4 0 4 wa HML.out rfl RM.out (by rw [HML.out]; omega) (by omega) (by omega) (by omega) (Rb.nil _ _) HV.out rfl rfl rfl).mono ?_
              rintro e w6 ⟨rfl, hb⟩
              have HB6 := Lib.hid (step0 HBa.out hb)
              clear hb
              go_wp2_with fail
              refine (HK.out _).mono ?_
              rintro e w7 ⟨rfl, hb⟩
              have HB7 := Lib.hid (step0 HB6.out hb)
              clear hb
              go_wp2_with fail
              go_ret
              exact ⟨rfl, HBW.out.trans (HB7.out.mono HBW.out.size)⟩
            · have hE1 : (a : Int) + wi.length ≤ n := by omega
              have HV := Lib.hid (HOK.out (by omega))
              clear hE
              have cf0 : ∀ v, Below wa.heap.size wa v → v.cell? ⟨wr.heap.size, 0, none⟩ = some (.int .u8 (x.c.toNat : Int)) := fun v h => (CEa.out.below h (Nat.le_refl _)).c0
              have cf1 : ∀ v, Below wa.heap.size wa v → v.cell? ⟨wr.heap.size, 1, none⟩ = some (.slice x.A x.p.length x.k) := fun v h => (CEa.out.below h (Nat.le_refl _)).c1
              have HLT : Hid (eg < wa.heap.size) := Nat.lt_of_lt_of_le heg HBa.out.size
              have cek : ∀ v, Below wa.heap.size wa v → v.cell? ⟨eg, k, none⟩ = some (.int .i64 ((a : Int) + wi.length)) := fun v h => by
                rw [h.cell (p := ⟨eg, k, none⟩) HLT.out, HCE.out]; rfl
              go_wp2_with fail
              rw [← hwa]
              clear hwa c0 c1 hce
              refine wp_region_noPanic ?_
              refine wp_region_held_drew (S := fun v => Below wa.heap.size wa v) (by kernel_rfl) ((Below.refl _ _).drew) (fun hHeld => ?_)
              refine wpAnyH_take (i := 0) (oi := ⟨some 75, _, _, _, _, _⟩) (v := ?_) rfl (by kernel_rfl) (by kernel_rfl) (by kernel_rfl) (fun _ _ _ h => h) (Or.inl ⟨by rfl, ?_⟩) (by assumption) ?_
              rotate_left
              · intro w hSw; go_simp; first | done | with_reducible rfl
              try simp only [Act.put, List.setIfInBounds_toArray, List.set_cons_zero, List.set_cons_succ]
              refine wpAnyH_take (i := 1) (oi := ⟨some 76, _, _, _, _, _⟩) (v := ?_) rfl (by kernel_rfl) (by kernel_rfl) (by kernel_rfl) (fun _ _ _ h => h) (Or.inl ⟨by rfl, ?_⟩) (by assumption) ?_
              rotate_left
              · intro w hSw; go_simp; first | done | with_reducible rfl
              try simp only [Act.put, List.setIfInBounds_toArray, List.set_cons_zero, List.set_cons_succ]
              refine wpAnyH_take (i := 2) (oi := ⟨some 77, _, _, _, _, _⟩) (v := ?_) rfl (by kernel_rfl) (by kernel_rfl) (by kernel_rfl) (fun _ _ _ h => h) (Or.inl ⟨by rfl, ?_⟩) (by assumption) ?_
              rotate_left
              · intro w hSw; go_simp; first | done | with_reducible rfl
              try simp only [Act.put, List.setIfInBounds_toArray, List.set_cons_zero, List.set_cons_succ]
              refine wpAnyH_take (i := 3) (oi := ⟨some 78, _, _, _, _, _⟩) (v := ?_) rfl (by kernel_rfl) (by kernel_rfl) (by kernel_rfl) (fun _ _ _ h => h) (Or.inl ⟨by rfl, ?_⟩) (by assumption) ?_
              rotate_left
              · intro w hSw; go_simp; first | done | with_reducible rfl
              try simp only [Act.put, List.setIfInBounds_toArray, List.set_cons_zero, List.set_cons_succ]
              refine wpAnyH_take (i := 4) (oi := ⟨some 79, _, _, _, _, _⟩) (v := ?_) rfl (by kernel_rfl) (by kernel_rfl) (by kernel_rfl) (fun _ _ _ h => h) (Or.inl ⟨by rfl, ?_⟩) (by assumption) ?_
              rotate_left
              · intro w hSw; go_simp; first | done | with_reducible rfl
              try simp only [Act.put, List.setIfInBounds_toArray, List.set_cons_zero, List.set_cons_succ]
              refine wpAnyH_take (i := 5) (oi := ⟨some 80, _, _, _, _, _⟩) (v := ?_) rfl (by kernel_rfl) (by kernel_rfl) (by kernel_rfl) (fun _ _ _ h => h) (Or.inl ⟨by rfl, ?_⟩) (by assumption) ?_
              rotate_left
              · intro w hSw; go_simp; first | done | with_reducible rfl
              try simp only [Act.put, List.setIfInBounds_toArray, List.set_cons_zero, List.set_cons_succ]
              refine wpAnyH_take (i := 6) (oi := ⟨some 81, _, _, _, _, _⟩) (v := ?_) rfl (by kernel_rfl) (by kernel_rfl) (by kernel_rfl) (fun _ _ _ h => h) (Or.inl ⟨by rfl, ?_⟩) (by assumption) ?_
              rotate_left
              · intro w hSw; go_simp; first | done | with_reducible rfl
              try simp only [Act.put, List.setIfInBounds_toArray, List.set_cons_zero, List.set_cons_succ]
              refine wpAnyH_take (i := 7) (oi := ⟨some 82, _, _, _, _, _⟩) (v := ?_) rfl (by kernel_rfl) (by kernel_rfl) (by kernel_rfl) (fun _ _ _ h => h) (Or.inl ⟨by rfl, ?_⟩) (by assumption) ?_
              rotate_left
              · intro w hSw; go_simp; first | done | with_reducible rfl
              try simp only [Act.put, List.setIfInBounds_toArray, List.set_cons_zero, List.set_cons_succ]
              refine wpAnyH_take (i := 8) (oi := ⟨some 83, _, _, _, _, _⟩) (v := ?_) rfl (by kernel_rfl) (by kernel_rfl) (by kernel_rfl) (fun _ _ _ h => h) (Or.inl ⟨by rfl, ?_⟩) (by assumption) ?_
              rotate_left
              · intro w hSw; go_simp; first | done | with_reducible rfl
              try simp only [Act.put, List.setIfInBounds_toArray, List.set_cons_zero, List.set_cons_succ]
              refine wpAnyH_take (i := 9) (oi := ⟨some 84, _, _, _, _, _⟩) (v := ?_) rfl (by kernel_rfl) (by kernel_rfl) (by kernel_rfl) (fun _ _ _ h => h) (Or.inl ⟨by rfl, ?_⟩) (by assumption) ?_
              rotate_left
              · intro w hSw; go_simp; first | done | with_reducible rfl
              try simp only [Act.put, List.setIfInBounds_toArray, List.set_cons_zero, List.set_cons_succ]
              refine wpAnyH_ready (rs := [10]) (by kernel_rfl) (by simp) ?_
              refine AllReadyH.cons (o := ⟨some 85, _, _, _, _, _⟩) rfl (fun K hK => ?_) AllReadyH.nil
              go_simp
              refine (reads_true (some ⟨g, a, none⟩) x.A m x.p (n - a) (vc - a) x.p.length x.k x.c 100 _ _ 0 wi.length 0 _ HML.out rfl (RM.out.below hHeld (Nat.le_refl _)) (by rw [HML.out]; omega) (by omega) (by omega) (by omega) (RXa.out.below hHeld (Nat.le_refl _)) HV.out rfl (by first | omega | (rw [IntKind.wrap_i64]; omega)) rfl).mono ?_
              rintro e w6 ⟨rfl, hbw⟩
              go_simp
              refine hK.out _ _ (step0 hHeld hbw) (fun hHeld => ?_)
              clear hK K
              try simp only [Act.put, List.setIfInBounds_toArray, List.set_cons_zero, List.set_cons_succ]
              refine wpAnyH_take (i := 11) (oi := ⟨some 86, _, _, _, _, _⟩) (v := ?_) rfl (by kernel_rfl) (by kernel_rfl) (by kernel_rfl) (fun _ _ _ h => h) (Or.inl ⟨by rfl, ?_⟩) (by assumption) ?_
              rotate_left
              · intro w hSw; go_simp; first | done | with_reducible rfl
              try simp only [Act.put, List.setIfInBounds_toArray, List.set_cons_zero, List.set_cons_succ]
              refine wpAnyH_done (by kernel_rfl) ?_ _
              refine NoPanic.normal ?_
              have HB8 := Lib.hid (step0 HBa.out hHeld)
              go_wp2_with fail
              go_roundw
              case rel => exact ⟨k + 1, by omega, by go_num, by rw [HENC.out]; go_num, by rw [HENC.out]; omega, HB8.out⟩
              case measure => simp [intOf]; omega
          · obtain rfl : k = l.length := by omega
            have hnn : ¬ (l.length : Int) < l.length := by omega
            have haa : (encs (l.take l.length)).length = ea.length := by rw [← HEA.out]
            obtain rfl : n = ea.length := by omega
            rw [haa]
            have HR : readV [] 100 = (0, [], 0, 4) := by decide +kernel
            have HRV := Lib.hid HR
            clear haa HR hak hea0
            by_cases hva : vc = ea.length
            · go_wp2_with fail
              refine (reads_true (some ⟨g, 0, none⟩) none [] [] 0 0 0 0 0 100 0 0 4 0 4 wr rfl rfl (Rb.nil _ _) (by simp) (Nat.zero_le _) (by omega) (by omega) (Rb.nil _ _) HRV.out rfl rfl rfl).mono ?_
              rintro e w6 ⟨rfl, hb⟩
              have HB6 := Lib.hid (step0 HBR.out hb)
              clear hb
              go_wp2_with fail
              refine (HK.out _).mono ?_
              rintro e w7 ⟨rfl, hb⟩
              have HB7 := Lib.hid (step0 HB6.out hb)
              clear hb
              go_wp2_with fail
              go_ret
              exact ⟨rfl, HBW.out.trans (HB7.out.mono HBW.out.size)⟩
            · go_wp2_with fail
              refine (reads_true (some ⟨g, ea.length, none⟩) none [] [] 0 (vc - ea.length) 0 0 0 100 0 0 4 0 4 wr rfl rfl (Rb.nil _ _) (by simp) (Nat.zero_le _) (by omega) (by omega) (Rb.nil _ _) HRV.out rfl rfl rfl).mono ?_
              rintro e w6 ⟨rfl, hb⟩
              have HB6 := Lib.hid (step0 HBR.out hb)
              clear hb
              go_wp2_with fail
              refine (HK.out _).mono ?_
              rintro e w7 ⟨rfl, hb⟩
              have HB7 := Lib.hid (step0 HB6.out hb)
              clear hb
              go_wp2_with fail
              go_ret
              exact ⟨rfl, HBW.out.trans (HB7.out.mono HBW.out.size)⟩
theorem rows_walk (D : Option Addr) (l : List Frm) (d : Nat) (n : Int) (W : World) (ha : Frms W D l d) (hn : (Lit.int .u8 n).wf = true) :
    Calls Try.prog 6 #[.slice D l.length d, .int .u8 n] W (boolOf true W) := by
  obtain ⟨b0, b1⟩ := Ve.wf_u8 hn
  obtain ⟨cut, rfl⟩ := Int.eq_ofNat_of_zero_le b0
  by_cases h : 20 < l.length
  · exact rows_over D l d cut W h
  · exact rows_main D l d cut W ha (by omega) (by omega)
end Go.Proofs.Ythaelepggckdbaa.Ft
