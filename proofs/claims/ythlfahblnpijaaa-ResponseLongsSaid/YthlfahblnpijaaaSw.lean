/- Proves what the specification's Write returns. Conditions: responses of bounded parts, whose numbers that are written are not negative. -/
import Derived.Test.YthlfahblnpijaaaSu
import Derived.Test.YthlfahblnpijaaaSo
import Derived.Test.YthlfahblnpijaaaVrb
namespace Go.Proofs.Ythlfahblnpijaaa.Sw
open Go.RowKit Vm Ap Vw Va Vr Vrb Gc Mi Mb Qm Sm Se So St Su

theorem rput_at {m : Int} (w : World) (h0 : 0 ≤ m) (h1 : m < 18446744073709551616) : Calls Try.prog 34 #[.int .u64 m] w (bytesPost w (encN m.toNat)) := by
  have e : ((m.toNat : Nat) : Int) = m := by omega
  have := rput_any m.toNat w (by unfold big; omega)
  rwa [e] at this
/-- The bytes of the first items, and of the first numbers. -/
def pI (x : Res) (k : Nat) : Bs := (x.items.take k).flatMap (fun y => encI y.i)
def pN (x : Res) (k : Nat) : Bs := (x.numbers.take k).flatMap encN
theorem pI_zero (x : Res) : pI x 0 = [] := rfl
theorem pN_zero (x : Res) : pN x 0 = [] := rfl
theorem pI_succ (x : Res) {k : Nat} (h : k < x.items.length) : pI x (k + 1) = pI x k ++ encI x.items[k].i := by
  unfold pI; rw [List.take_succ_eq_append_getElem h, List.flatMap_append]; simp
theorem pN_succ (x : Res) {k : Nat} (h : k < x.numbers.length) : pN x (k + 1) = pN x k ++ encN x.numbers[k] := by
  unfold pN; rw [List.take_succ_eq_append_getElem h, List.flatMap_append]; simp
theorem pI_all (x : Res) : pI x x.items.length = x.r.items.flatMap encI := by
  unfold pI Res.r; rw [List.take_length]; simp only; rw [List.flatMap_map]
theorem pN_all (x : Res) : pN x x.numbers.length = x.r.numbers.flatMap encN := by
  unfold pN Res.r; rw [List.take_length]
theorem encI_le {y : Itm} (h1 : y.mark ≤ 9223372036854775807) (h2 : y.value.length ≤ 1000000) (h3 : y.version < 18446744073709551616) (h4 : y.dead < 18446744073709551616) : (encI y).length ≤ 1000040 := by
  have a := enc_le y.mark.toNat (by unfold big; omega)
  have b := enc_le y.version (by unfold big; omega)
  have c := enc_le y.dead (by unfold big; omega)
  have d := enc_le y.value.length (by unfold big; omega)
  unfold encI
  split
  · rw [List.append_nil]; omega
  · unfold encS; simp only [List.length_append]; omega
theorem pI_le {x : Res} (h : BndS x) (h40 : x.items.length ≤ 40) : ∀ k, k ≤ x.items.length → (pI x k).length ≤ k * 1000040
  | 0, _ => by rw [pI_zero]; simp
  | k + 1, hk => by
    have ih := pI_le h h40 k (by omega)
    have hb := h.each _ (List.getElem_mem (show k < x.items.length by omega))
    have he := encI_le hb.1.2 hb.2.1 hb.2.2.1 hb.2.2.2
    rw [pI_succ x (by omega), List.length_append]; omega
theorem pN_le {x : Res} (h : BndS x) : ∀ k, k ≤ x.numbers.length → (pN x k).length ≤ k * 10
  | 0, _ => by rw [pN_zero]; simp
  | k + 1, hk => by
    have ih := pN_le h k (by omega)
    have hb := h.nums _ (List.getElem_mem (show k < x.numbers.length by omega))
    have he := enc_le x.numbers[k] (by unfold big; omega)
    rw [pN_succ x (by omega), List.length_append]; omega
theorem wpList_grow {ops : Array Oper} {rest : List Oper} {o : Oper} {a : Act} {Q : Exit → Act → World → Prop} {w : World} (hgd : o.guard = none) (s x : Operand)
    (ho : o.op = .call { callee := .builtin .append, args := #[s, x], argTypes := #[36, 36] })
    {Z : Nat} {U : Option Addr} {l : Bs} {uc : Nat} (hs : a.eval s = .slice U l.length uc) (hm : MineB Z w U l uc) (m : Bs) (A : Option Addr) (c : Nat)
    (hx : a.eval x = .slice A m.length c) (hA : A = none → c = 0) (hr : Rb w A m) (hn : l.length ≤ 1000000000) (hm2 : m.length ≤ 1000000000) (hB : Z ≤ w.heap.size)
    (h : ∀ U' uc' w' l', Hid (l' = l ++ m) → MineB Z w' U' l' uc' → Below Z w w' → Keep w U w' U' → wpList Try.prog ops Q rest (a.put o.dst (.slice U' l'.length uc')) w') :
    wpList Try.prog ops Q (o :: rest) a w := by
  refine wpList_mine hgd s x elmB _ ho hs hm _ hx m.length _ (src_rb hr hA) hn hm2 hB (fun A' c' w' h1 h2 h3 => ?_)
  rw [map_app] at h1
  have hk : Keep w U w' A' := keep_of h2 h3
  have hb : Below Z w w' := below_of_grown h2 hB (fun k e => by
    rw [Option.map_eq_some_iff] at e
    obtain ⟨b, hb, e''⟩ := e
    have := (hm.base hb).1; omega)
  have hl : l.length + m.length = (l ++ m).length := by rw [List.length_append]
  rw [hl] at h1 ⊢
  exact h A' c' w' _ (Lib.hid rfl) h1 hb hk
def rwPost (w : World) (x : Res) : Ending → World → Prop := fun e w' =>
  ∃ A k, e = .returned (.agg #[.int .u8 (64 + x.op), .slice A (payS x.r).length k]) ∧ Fre w.heap.size w' A (payS x.r) k ∧ Below w.heap.size w w'
theorem pay_err {x : Res} (h : x.err ≠ 0) : payS x.r = encN x.err.toNat := by
  have h2 : x.r.err ≠ 0 := h
  unfold payS; rw [if_neg h2, List.append_nil]; rfl
theorem pay_ok {x : Res} (h : x.err = 0) (hd : Bs) (hh : headS x.r = hd) : payS x.r = encN x.err.toNat ++ hd ++ pI x x.items.length ++ pN x x.numbers.length := by
  have h2 : x.r.err = 0 := h
  unfold payS; rw [if_pos h2, hh, pI_all, pN_all]
  simp only [List.append_assoc]; rfl
theorem head_at {x : Res} : (need x.op = 119 → headS x.r = encN x.version ++ encN x.count.toNat) ∧ (need x.op = 105 → headS x.r = []) ∧ (need x.op = 109 → headS x.r = encN x.items.length) ∧ (need x.op = 110 → headS x.r = encN x.numbers.length) ∧ (need x.op = 99 → headS x.r = encN x.count.toNat) := by
  have e : need x.r.op = need x.op := rfl
  unfold headS
  rw [e]
  refine ⟨fun h => ?_, fun h => ?_, fun h => ?_, fun h => ?_, fun h => ?_⟩ <;> rw [h] <;> simp [Res.r]
set_option maxRecDepth 100000 in
set_option maxHeartbeats 16000000 in
theorem rwr_any (x : Res) (w : World) (hr : RRc w x) (hb : BndS x) (h40 : x.items.length ≤ 40) (ho1 : 0 ≤ x.op) (ho2 : x.op ≤ 15) (he1 : 0 ≤ x.err) (hc1 : 0 ≤ x.count) (hm : ∀ y ∈ x.items, 0 ≤ y.i.mark) :
    Calls Try.prog 19 #[resV x] w (rwPost w x) := by
  unfold resV
  obtain ⟨C, hC⟩ : ∃ C, C = w.heap.size := ⟨_, rfl⟩
  obtain ⟨w0, hw0⟩ : ∃ w0, w0 = (w.alloc (resO x)).alloc (.cells #[.int .u8 0, .slice none 0 0] 38) := ⟨_, rfl⟩
  have B0 : Below w.heap.size w w0 := by rw [hw0]; exact two_below _ _ _
  have HB := Lib.hid B0
  have HBX : Hid (BoxS w0 C x) := by show BoxS _ _ _; rw [hw0, hC]; exact (BoxS.new w x).below (alloc_below _ _) (Nat.le_refl _)
  have HCE : Hid (Cel w0 (C + 1) (.int .u8 0) (.slice none 0 0)) := by
    have h := Cel.new (w.alloc (resO x)) (.int .u8 0) (.slice none 0 0) 38
    have e : (w.alloc (resO x)).heap.size = C + 1 := by rw [hC]; simp
    rw [e] at h
    show Cel _ _ _ _
    rw [hw0]; exact h
  have HR := Lib.hid (fun W (h : Below w0.heap.size w0 W) => (hr.below B0 (Nat.le_refl _)).below h (Nat.le_refl _))
  have HD := Lib.hid hb
  have HM := Lib.hid hm
  have HPI := Lib.hid (pI_le hb h40)
  have HPN := Lib.hid (pN_le hb)
  have HIS := Lib.hid (fun k h => pI_succ x (k := k) h)
  have HNS := Lib.hid (fun k h => pN_succ x (k := k) h)
  have HZC : Hid (C + 2 = w0.heap.size) := by show _ = _; rw [hw0, hC]; simp
  have HCW := Lib.hid hC
  have HZ2 : Hid (w0.heap.size ≤ w0.heap.size) := Nat.le_refl _
  have zi := hb.items; have zn := hb.numbers; have ze := hb.err2; have zc := hb.count2; have zv := hb.version
  unfold resO at hw0
  clear B0 hr hb hm
  have HEL := enc_le x.err.toNat (by unfold big; omega)
  have HPE := Lib.hid (pay_err (x := x))
  have HPO := Lib.hid (pay_ok (x := x))
  have HHD := Lib.hid (head_at (x := x))
  go_enter Try.func19, Try.ntmps19
  go_upto_region 1 with fail
  rw [← hw0, ← hC]
  clear hw0 hC
  have k1 := HBX.out.c1
  go_wp2_with fail
  refine (rput_at _ he1 (by omega)).mono ?_
  rintro e wa ⟨P, rfl, h1, b1⟩
  obtain ⟨U, uc, sp⟩ := own_shape h1
  obtain rfl := sp.val
  have BW := Lib.hid b1
  have HO := Lib.hid ((mine_own h1).mono HZ2.out)
  obtain ⟨l, hl⟩ : ∃ l, l = encN x.err.toNat := ⟨_, rfl⟩
  rw [← hl] at HO HEL ⊢
  have HL := Lib.hid hl
  clear h1 b1 sp hl k1
  have k0 := (HBX.out.below BW.out (Nat.le_refl _)).c0
  have k1 := (HBX.out.below BW.out (Nat.le_refl _)).c1
  by_cases he : x.err = 0
  rotate_left
  · have e6 : (x.err == 0) = false := by rw [beq_eq_false_iff_ne]; exact he
    have HPQ := Lib.hid (HPE.out he)
    clear he HPE HPO HHD HPI HPN HIS HNS
    obtain ⟨q0, q1, g0, g1⟩ := HCE.out.below BW.out (Nat.le_refl _)
    have k0 := (HBX.out.below BW.out (Nat.le_refl _)).c0
    have hcl : C + 1 < wa.heap.size := by have := BW.out.size; have := HZC.out; omega
    have HQ : Hid (l = payS x.r) := by show _ = _; rw [HPQ.out, HL.out]
    go_wp2_with fail
    refine bodyPost_ret (v := .agg #[.int .u8 (64 + x.op), .slice U l.length uc]) (by simp [results, Try.results19, go_sem, q0, q1]) rfl ⟨U, uc, by rw [HQ.out], ?_, ?_⟩
    · have hCw := HCW.out; have hz2 := HZC.out
      rw [← HQ.out]
      have hM := HO.out.only (((Only.refl (fun j => j = C + 1) _).put (ad := ⟨C + 1, 0, none⟩) rfl (.int .u8 (64 + x.op))).put (ad := ⟨C + 1, 1, none⟩) rfl (.slice U l.length uc)) (fun a ha e => by have := (HO.out.base ha).1; omega)
      exact fre_mine (hM.mono (by omega))
    · have hCw := HCW.out
      have h1 := HB.out.trans (BW.out.mono HB.out.size)
      exact (h1.setCell (by show w.heap.size ≤ C + 1; omega) _).setCell (by show w.heap.size ≤ C + 1; omega) _
  have e6 : (x.err == 0) = true := by rw [he]; rfl
  have HPQ := Lib.hid (HPO.out he)
  clear HPE HPO
  rcases need_cases x.op with q | q | q | q | q
  case' inl =>
    have HN := Lib.hid (fun W => need_at 119 q rfl W)
    have HHX := Lib.hid (HHD.out.1 q)
    clear q he HHD
    go_wp2_with fail
    refine (HN.out _).mono ?_
    rintro e wx ⟨rfl, rfl⟩
    clear k0 k1
    have k3 := (HBX.out.below BW.out (Nat.le_refl _)).c3
    have hb1 := enc_le x.version (by unfold big; omega)
    have hb2 := enc_le x.count.toNat (by unfold big; omega)
    go_wp2_with fail
    refine (rput_any x.version _ (by unfold big; omega)).mono ?_
    rintro e wp1 ⟨P1, rfl, h1, b1⟩
    obtain ⟨PA1, pc1, sp⟩ := own_shape h1
    obtain rfl := sp.val
    have SP1 := Lib.hid sp
    have BP1 : Hid (Below w0.heap.size w0 wp1) := BW.out.trans (b1.mono BW.out.size)
    have HP1 := Lib.hid (HO.out.below b1 (Nat.le_refl _))
    have hz1 := BP1.out.size
    clear h1 b1 sp k3
    go_wp2_with (at_builtin; (refine wpList_grow rfl _ _ rfl rfl HP1.out (encN x.version) PA1 pc1 rfl SP1.out.non SP1.out.rd (by omega) (by omega) hz1 ?_))
    intro U1 uc1 w1 l1 HL1 h2 b2 kp
    have BW1 := Lib.hid (BP1.out.trans (b2.mono (Nat.le_refl _)))
    have HO1 := Lib.hid h2
    have hn1 : l1.length ≤ 20 := by rw [HL1.out, List.length_append]; omega
    clear h2 b2 kp SP1 HP1 BP1 hz1
    have k4 := (HBX.out.below BW1.out (Nat.le_refl _)).c4
    go_wp2_with fail
    refine (rput_at _ hc1 (by omega)).mono ?_
    rintro e wpH ⟨PH, rfl, h1, b1⟩
    obtain ⟨PAH, pcH, sp⟩ := own_shape h1
    obtain rfl := sp.val
    have SPH := Lib.hid sp
    have BPH : Hid (Below w0.heap.size w0 wpH) := BW1.out.trans (b1.mono BW1.out.size)
    have HPH := Lib.hid (HO1.out.below b1 (Nat.le_refl _))
    have hzH := BPH.out.size
    clear h1 b1 sp k4
    go_wp2_with (at_builtin; (refine wpList_grow rfl _ _ rfl rfl HPH.out (encN x.count.toNat) PAH pcH rfl SPH.out.non SPH.out.rd (by omega) (by omega) hzH ?_))
    intro UH ucH wH lH HLH h2 b2 kp
    have BWH := Lib.hid (BPH.out.trans (b2.mono (Nat.le_refl _)))
    have HOH := Lib.hid h2
    have hnH : lH.length ≤ 30 := by rw [HLH.out, List.length_append]; omega
    clear h2 b2 kp SPH HPH BPH hzH
    have HLH : Hid (lH = encN x.err.toNat ++ headS x.r) := by show _ = _; rw [HLH.out, HL1.out, HL.out, HHX.out, List.append_assoc]
    clear HO HO1 BW BW1 HL HL1 HN HHX hn1 hb1 hb2
  case' inr.inl =>
    have HN := Lib.hid (fun W => need_at 105 q rfl W)
    have HHX := Lib.hid (HHD.out.2.1 q)
    clear q he HHD
    go_wp2_with fail
    refine (HN.out _).mono ?_
    rintro e wx ⟨rfl, rfl⟩
    clear k0 k1
    have HLH : Hid (l = encN x.err.toNat ++ headS x.r) := by show _ = _; rw [HL.out, HHX.out, List.append_nil]
    have hnH : l.length ≤ 30 := by omega
    clear HL HN HHX HEL
    have HOH := HO; have BWH := BW
    clear HO BW
    obtain ⟨lH, rfl⟩ : ∃ q, q = l := ⟨_, rfl⟩
    obtain ⟨UH, rfl⟩ : ∃ q, q = U := ⟨_, rfl⟩
    obtain ⟨ucH, rfl⟩ : ∃ q, q = uc := ⟨_, rfl⟩
    obtain ⟨wH, rfl⟩ : ∃ q, q = wa := ⟨_, rfl⟩
  case' inr.inr.inl =>
    have HN := Lib.hid (fun W => need_at 109 q rfl W)
    have HHX := Lib.hid (HHD.out.2.2.1 q)
    clear q he HHD
    go_wp2_with fail
    refine (HN.out _).mono ?_
    rintro e wx ⟨rfl, rfl⟩
    clear k0 k1
    have k2 := (HBX.out.below BW.out (Nat.le_refl _)).c2
    have hb1 := enc_le x.items.length (by unfold big; omega)
    go_wp2_with fail
    refine (rput_any x.items.length _ (by unfold big; omega)).mono ?_
    rintro e wpH ⟨PH, rfl, h1, b1⟩
    obtain ⟨PAH, pcH, sp⟩ := own_shape h1
    obtain rfl := sp.val
    have SPH := Lib.hid sp
    have BPH : Hid (Below w0.heap.size w0 wpH) := BW.out.trans (b1.mono BW.out.size)
    have HPH := Lib.hid (HO.out.below b1 (Nat.le_refl _))
    have hzH := BPH.out.size
    clear h1 b1 sp k2
    go_wp2_with (at_builtin; (refine wpList_grow rfl _ _ rfl rfl HPH.out (encN x.items.length) PAH pcH rfl SPH.out.non SPH.out.rd (by omega) (by omega) hzH ?_))
    intro UH ucH wH lH HLH h2 b2 kp
    have BWH := Lib.hid (BPH.out.trans (b2.mono (Nat.le_refl _)))
    have HOH := Lib.hid h2
    have hnH : lH.length ≤ 30 := by rw [HLH.out, List.length_append]; omega
    clear h2 b2 kp SPH HPH BPH hzH
    have HLH : Hid (lH = encN x.err.toNat ++ headS x.r) := by show _ = _; rw [HLH.out, HL.out, HHX.out]
    clear HO BW HL HN HHX hb1
  case' inr.inr.inr.inl =>
    have HN := Lib.hid (fun W => need_at 110 q rfl W)
    have HHX := Lib.hid (HHD.out.2.2.2.1 q)
    clear q he HHD
    go_wp2_with fail
    refine (HN.out _).mono ?_
    rintro e wx ⟨rfl, rfl⟩
    clear k0 k1
    have k5 := (HBX.out.below BW.out (Nat.le_refl _)).c5
    have hb1 := enc_le x.numbers.length (by unfold big; omega)
    go_wp2_with fail
    refine (rput_any x.numbers.length _ (by unfold big; omega)).mono ?_
    rintro e wpH ⟨PH, rfl, h1, b1⟩
    obtain ⟨PAH, pcH, sp⟩ := own_shape h1
    obtain rfl := sp.val
    have SPH := Lib.hid sp
    have BPH : Hid (Below w0.heap.size w0 wpH) := BW.out.trans (b1.mono BW.out.size)
    have HPH := Lib.hid (HO.out.below b1 (Nat.le_refl _))
    have hzH := BPH.out.size
    clear h1 b1 sp k5
    go_wp2_with (at_builtin; (refine wpList_grow rfl _ _ rfl rfl HPH.out (encN x.numbers.length) PAH pcH rfl SPH.out.non SPH.out.rd (by omega) (by omega) hzH ?_))
    intro UH ucH wH lH HLH h2 b2 kp
    have BWH := Lib.hid (BPH.out.trans (b2.mono (Nat.le_refl _)))
    have HOH := Lib.hid h2
    have hnH : lH.length ≤ 30 := by rw [HLH.out, List.length_append]; omega
    clear h2 b2 kp SPH HPH BPH hzH
    have HLH : Hid (lH = encN x.err.toNat ++ headS x.r) := by show _ = _; rw [HLH.out, HL.out, HHX.out]
    clear HO BW HL HN HHX hb1
  case' inr.inr.inr.inr =>
    have HN := Lib.hid (fun W => need_at 99 q rfl W)
    have HHX := Lib.hid (HHD.out.2.2.2.2 q)
    clear q he HHD
    go_wp2_with fail
    refine (HN.out _).mono ?_
    rintro e wx ⟨rfl, rfl⟩
    clear k0 k1
    have k4 := (HBX.out.below BW.out (Nat.le_refl _)).c4
    have hb1 := enc_le x.count.toNat (by unfold big; omega)
    go_wp2_with fail
    refine (rput_at _ hc1 (by omega)).mono ?_
    rintro e wpH ⟨PH, rfl, h1, b1⟩
    obtain ⟨PAH, pcH, sp⟩ := own_shape h1
    obtain rfl := sp.val
    have SPH := Lib.hid sp
    have BPH : Hid (Below w0.heap.size w0 wpH) := BW.out.trans (b1.mono BW.out.size)
    have HPH := Lib.hid (HO.out.below b1 (Nat.le_refl _))
    have hzH := BPH.out.size
    clear h1 b1 sp k4
    go_wp2_with (at_builtin; (refine wpList_grow rfl _ _ rfl rfl HPH.out (encN x.count.toNat) PAH pcH rfl SPH.out.non SPH.out.rd (by omega) (by omega) hzH ?_))
    intro UH ucH wH lH HLH h2 b2 kp
    have BWH := Lib.hid (BPH.out.trans (b2.mono (Nat.le_refl _)))
    have HOH := Lib.hid h2
    have hnH : lH.length ≤ 30 := by rw [HLH.out, List.length_append]; omega
    clear h2 b2 kp SPH HPH BPH hzH
    have HLH : Hid (lH = encN x.err.toNat ++ headS x.r) := by show _ = _; rw [HLH.out, HL.out, HHX.out]
    clear HO BW HL HN HHX hb1
  all_goals
    clear e6
    have k2 := (HBX.out.below BWH.out (Nat.le_refl _)).c2
    have HPQ2 := Lib.hid (HPQ.out _ rfl)
    rw [← HLH.out] at HPQ2
    clear HLH HPQ k2
    go_wp2_with fail
    go_loopw [3, 4] (fun u i wr => ∃ (k : Nat) (U : Option Addr) (uc : Nat), k ≤ x.items.length ∧ i = .int .i64 (k : Int) ∧ u = .slice U (lH ++ pI x k).length uc ∧ MineB w0.heap.size wr U (lH ++ pI x k) uc ∧ Below w0.heap.size w0 wr) (fun _ i _ => x.items.length - (intOf i).toNat)
    case atStart => exact ⟨0, UH, ucH, Nat.zero_le _, rfl, by rw [pI_zero, List.append_nil], by rw [pI_zero, List.append_nil]; exact HOH.out, BWH.out⟩
    case round =>
      obtain ⟨k, U, uc, hkl, rfl, rfl, hown, hbw⟩ := hrel
      obtain ⟨wo, rfl⟩ : ∃ wo : World, wo = wr := ⟨_, rfl⟩
      have BW := Lib.hid hbw
      have HO := Lib.hid hown
      clear hown hbw HOH BWH
      have hpl := HPI.out k hkl
      obtain ⟨l, hl⟩ : ∃ l, l = lH ++ pI x k := ⟨_, rfl⟩
      rw [← hl] at HO ⊢
      have hln : l.length ≤ 50000000 := by rw [hl, List.length_append]; omega
      have HL := Lib.hid hl
      clear hl hpl
      have k2 := (HBX.out.below BW.out (Nat.le_refl _)).c2
      by_cases hlt : k < x.items.length
      · have i1 : (k : Int) < x.items.length := by omega
        obtain ⟨p1, o1, ep, l1, c10, c11, c12, c13⟩ := (HR.out wo BW.out).ri.at_ hlt
        have HVR : Hid (∀ W, Below w0.heap.size w0 W → Rb W x.items[k].A x.items[k].i.value) := fun W h => (HR.out W h).rv _ (List.getElem_mem hlt)
        have HVN := Lib.hid ((HR.out wo BW.out).nv _ (List.getElem_mem hlt))
        have HSU := Lib.hid (HIS.out k hlt)
        have hbnd := HD.out.each _ (List.getElem_mem hlt)
        have hm0 := HM.out _ (List.getElem_mem hlt)
        obtain ⟨y, hy⟩ : ∃ y, y = x.items[k] := ⟨_, rfl⟩
        rw [← hy] at c10 c11 c12 c13 HVR HVN HSU hbnd hm0
        obtain ⟨⟨_, m2⟩, vl, vv, vd⟩ := hbnd
        rw [ep] at k2
        clear hy
        go_upto_region 17 with fail
        obtain ⟨w4, hw4⟩ : ∃ w4, w4 = wo.alloc (imO y) := ⟨_, rfl⟩
        have b4 : Below wo.heap.size wo w4 := by rw [hw4]; exact alloc_below _ _
        have BW4 := Lib.hid (BW.out.trans (b4.mono BW.out.size))
        have HBI : Hid (BoxI w4 wo.heap.size y) := by show BoxI _ _ _; rw [hw4]; exact BoxI.new _ _
        have HO4 := Lib.hid (HO.out.below b4 (Nat.le_refl _))
        have hD : ∀ a, U = some a → a.block ≠ wo.heap.size := fun a ha => by have := (HO.out.base ha).2.1; omega
        have hDl := HBI.out.lt
        obtain ⟨D, hDD⟩ : ∃ D, D = wo.heap.size := ⟨_, rfl⟩
        unfold imO at hw4
        rw [← hDD] at HBI hDl hD
        rw [← hw4, ← hDD]
        obtain ⟨t0, _, _, _, _⟩ := HBI.out
        clear hw4 b4 hDD k2 c10 c11 c12 c13 ep l1
        have hb0 := enc_le y.i.mark.toNat (by unfold big; omega)
        have hb1 := enc_le y.i.version (by unfold big; omega)
        have hb2 := enc_le y.i.dead (by unfold big; omega)
        have hb3 := enc_le y.i.value.length (by unfold big; omega)
        clear HO BW
        go_wp2_with fail
        refine (rput_at _ hm0 (by omega)).mono ?_
        rintro e wpa ⟨Pa, rfl, h1, b1⟩
        obtain ⟨PAa, pca, sp⟩ := own_shape h1
        obtain rfl := sp.val
        have SPa := Lib.hid sp
        have BPa : Hid (Below w0.heap.size w0 wpa) := BW4.out.trans (b1.mono BW4.out.size)
        have HPa := Lib.hid (HO4.out.below b1 (Nat.le_refl _))
        have HBPa := Lib.hid (HBI.out.below b1 (Nat.le_refl _))
        have hza := BPa.out.size
        clear h1 b1 sp t0
        go_wp2_with (at_builtin; (refine wpList_grow rfl _ _ rfl rfl HPa.out (encN y.i.mark.toNat) PAa pca rfl SPa.out.non SPa.out.rd (by omega) (by omega) hza ?_))
        intro Ua uca wa la HLa h2 b2 kp
        have BWa := Lib.hid (BPa.out.trans (b2.mono (Nat.le_refl _)))
        have HOa := Lib.hid h2
        obtain ⟨hDa, e2⟩ := kp _ HBPa.out.lt hD
        have HBIa := Lib.hid (HBPa.out.kept e2)
        clear e2 HBPa HBI hD
        have hna : la.length ≤ 50000010 := by rw [HLa.out, List.length_append]; omega
        clear h2 b2 kp SPa HPa BPa hza
        obtain ⟨t0, _, _, _, _⟩ := HBIa.out
        by_cases hm : y.i.mark = 0
        · have n0 : (y.i.mark != 0) = false := by rw [hm]; rfl
          have HEI : Hid (la = lH ++ pI x (k + 1)) := by
            show _ = _
            rw [HLa.out, HL.out, HSU.out, List.append_assoc]; unfold encI; rw [if_pos hm, List.append_nil]
          clear hm
          go_wp2_with fail
          go_roundw
          case rel => exact ⟨k + 1, Ua, uca, by omega, by go_num, by rw [← HEI.out], by rw [← HEI.out]; exact HOa.out, BWa.out⟩
          case measure => simp [intOf]; omega
        · have n0 : (y.i.mark != 0) = true := by rw [bne_iff_ne]; exact hm
          have HEI : Hid (∀ q1 q2 q3, q1 = la ++ encN y.i.version → q2 = q1 ++ encN y.i.dead → q3 = q2 ++ (encN y.i.value.length ++ y.i.value) → q3 = lH ++ pI x (k + 1)) := fun q1 q2 q3 e1 e2 e3 => by
            rw [e3, e2, e1, HLa.out, HL.out, HSU.out]; unfold encI encS; rw [if_neg hm]; simp only [List.append_assoc]
          clear hm HSU
          obtain ⟨_, _, t2, _, _⟩ := HBIa.out
          go_wp2_with fail
          refine (rput_any y.i.version _ (by unfold big; omega)).mono ?_
          rintro e wpb ⟨Pb, rfl, h1, b1⟩
          obtain ⟨PAb, pcb, sp⟩ := own_shape h1
          obtain rfl := sp.val
          have SPb := Lib.hid sp
          have BPb : Hid (Below w0.heap.size w0 wpb) := BWa.out.trans (b1.mono BWa.out.size)
          have HPb := Lib.hid (HOa.out.below b1 (Nat.le_refl _))
          have HBPb := Lib.hid (HBIa.out.below b1 (Nat.le_refl _))
          have hzb := BPb.out.size
          clear h1 b1 sp t0 t2
          go_wp2_with (at_builtin; (refine wpList_grow rfl _ _ rfl rfl HPb.out (encN y.i.version) PAb pcb rfl SPb.out.non SPb.out.rd (by omega) (by omega) hzb ?_))
          intro Ub ucb wb lb HLb h2 b2 kp
          have BWb := Lib.hid (BPb.out.trans (b2.mono (Nat.le_refl _)))
          have HOb := Lib.hid h2
          obtain ⟨hDb, e2⟩ := kp _ HBPb.out.lt hDa
          have HBIb := Lib.hid (HBPb.out.kept e2)
          clear e2 HBPb HBIa hDa
          have hnb : lb.length ≤ 50000020 := by rw [HLb.out, List.length_append]; omega
          clear h2 b2 kp SPb HPb BPb hzb
          obtain ⟨_, _, _, t3, _⟩ := HBIb.out
          go_wp2_with fail
          refine (rput_any y.i.dead _ (by unfold big; omega)).mono ?_
          rintro e wpc ⟨Pc, rfl, h1, b1⟩
          obtain ⟨PAc, pcc, sp⟩ := own_shape h1
          obtain rfl := sp.val
          have SPc := Lib.hid sp
          have BPc : Hid (Below w0.heap.size w0 wpc) := BWb.out.trans (b1.mono BWb.out.size)
          have HPc := Lib.hid (HOb.out.below b1 (Nat.le_refl _))
          have HBPc := Lib.hid (HBIb.out.below b1 (Nat.le_refl _))
          have hzc := BPc.out.size
          clear h1 b1 sp t3
          go_wp2_with (at_builtin; (refine wpList_grow rfl _ _ rfl rfl HPc.out (encN y.i.dead) PAc pcc rfl SPc.out.non SPc.out.rd (by omega) (by omega) hzc ?_))
          intro Uc ucc wc lc HLc h2 b2 kp
          have BWc := Lib.hid (BPc.out.trans (b2.mono (Nat.le_refl _)))
          have HOc := Lib.hid h2
          obtain ⟨hDc, e2⟩ := kp _ HBPc.out.lt hDb
          have HBIc := Lib.hid (HBPc.out.kept e2)
          clear e2 HBPc HBIb hDb
          have hnc : lc.length ≤ 50000030 := by rw [HLc.out, List.length_append]; omega
          clear h2 b2 kp SPc HPc BPc hzc
          obtain ⟨_, t1, _, _, _⟩ := HBIc.out
          obtain ⟨ev, hev⟩ : ∃ ev, ev = encN y.i.value.length ++ y.i.value := ⟨_, rfl⟩
          have hvl : ev.length ≤ 1000010 := by rw [hev, List.length_append]; omega
          have HPB : Hid (∀ W, Rb W y.A y.i.value → Calls Try.prog 35 #[.slice y.A y.i.value.length y.k] W (bytesPost W ev)) := fun W h => by rw [hev]; exact rputB_any y.A y.i.value y.k W h HVN.out (by omega)
          have HEV := Lib.hid hev
          clear hev
          go_wp2_with fail
          refine (HPB.out _ (HVR.out _ BWc.out)).mono ?_
          rintro e wpd ⟨Pd, rfl, h1, b1⟩
          obtain ⟨PAd, pcd, sp⟩ := own_shape h1
          obtain rfl := sp.val
          have SPd := Lib.hid sp
          have BPd : Hid (Below w0.heap.size w0 wpd) := BWc.out.trans (b1.mono BWc.out.size)
          have HPd := Lib.hid (HOc.out.below b1 (Nat.le_refl _))
          have hzd := BPd.out.size
          clear h1 b1 sp t1
          go_wp2_with (at_builtin; (refine wpList_grow rfl _ _ rfl rfl HPd.out (ev) PAd pcd rfl SPd.out.non SPd.out.rd (by omega) (by omega) hzd ?_))
          intro Ud ucd wd ld HLd h2 b2 kp
          have BWd := Lib.hid (BPd.out.trans (b2.mono (Nat.le_refl _)))
          have HOd := Lib.hid h2
          have hnd : ld.length ≤ 60000030 := by rw [HLd.out, List.length_append]; omega
          clear h2 b2 kp SPd HPd BPd hzd
          have HEJ := Lib.hid (HEI.out lb lc ld HLb.out HLc.out (HLd.out.trans (by rw [HEV.out])))
          clear HEI
          go_wp2_with fail
          go_roundw
          case rel => exact ⟨k + 1, Ud, ucd, by omega, by go_num, by rw [← HEJ.out], by rw [← HEJ.out]; exact HOd.out, BWd.out⟩
          case measure => simp [intOf]; omega
      · obtain rfl : k = x.items.length := by omega
        have hnn : ¬ (x.items.length : Int) < x.items.length := by omega
        have HPQ3 : Hid (payS x.r = l ++ pN x x.numbers.length) := by show _ = _; rw [HPQ2.out, HL.out]
        have k5 := (HBX.out.below BW.out (Nat.le_refl _)).c5
        clear HPQ2 HL HIS HPI HM
        go_wp2_with fail
        clear k2 k5
        go_loopw [3, 6] (fun u i wr => ∃ (k : Nat) (U : Option Addr) (uc : Nat), k ≤ x.numbers.length ∧ i = .int .i64 (k : Int) ∧ u = .slice U (l ++ pN x k).length uc ∧ MineB w0.heap.size wr U (l ++ pN x k) uc ∧ Below w0.heap.size w0 wr) (fun _ i _ => x.numbers.length - (intOf i).toNat)
        case atStart => exact ⟨0, U, uc, Nat.zero_le _, rfl, by rw [pN_zero, List.append_nil], by rw [pN_zero, List.append_nil]; exact HO.out, BW.out⟩
        case round =>
          obtain ⟨k, U2, uc2, hkl2, rfl, rfl, hown, hbw⟩ := hrel
          obtain ⟨w2, rfl⟩ : ∃ w2 : World, w2 = wr := ⟨_, rfl⟩
          have BW2 := Lib.hid hbw
          have HO2 := Lib.hid hown
          clear hown hbw HO BW
          have hpl := HPN.out k hkl2
          obtain ⟨l2, hl2⟩ : ∃ l2, l2 = l ++ pN x k := ⟨_, rfl⟩
          rw [← hl2] at HO2 ⊢
          have hln2 : l2.length ≤ 60000000 := by rw [hl2, List.length_append]; omega
          have HL2 := Lib.hid hl2
          clear hl2 hpl
          have k5 := (HBX.out.below BW2.out (Nat.le_refl _)).c5
          by_cases hlt : k < x.numbers.length
          · have i1 : (k : Int) < x.numbers.length := by omega
            obtain ⟨p1, o1, ep, l1, c10⟩ := (HR.out w2 BW2.out).rn.at_ hlt
            have HSU := Lib.hid (HNS.out k hlt)
            have hbnd := HD.out.nums _ (List.getElem_mem hlt)
            obtain ⟨y, hy⟩ : ∃ y, y = x.numbers[k] := ⟨_, rfl⟩
            rw [← hy] at c10 HSU hbnd
            rw [ep] at k5
            clear hy
            have hb1 := enc_le y (by unfold big; omega)
            go_wp2_with fail
            refine (rput_any y _ (by unfold big; omega)).mono ?_
            rintro e wpa ⟨Pa, rfl, h1, b1⟩
            obtain ⟨PAa, pca, sp⟩ := own_shape h1
            obtain rfl := sp.val
            have SPa := Lib.hid sp
            have BPa : Hid (Below w0.heap.size w0 wpa) := BW2.out.trans (b1.mono BW2.out.size)
            have HPa := Lib.hid (HO2.out.below b1 (Nat.le_refl _))
            have hza := BPa.out.size
            clear h1 b1 sp k5 c10 ep l1
            go_wp2_with (at_builtin; (refine wpList_grow rfl _ _ rfl rfl HPa.out (encN y) PAa pca rfl SPa.out.non SPa.out.rd (by omega) (by omega) hza ?_))
            intro Ua uca wa la HLa h2 b2 kp
            have BWa := Lib.hid (BPa.out.trans (b2.mono (Nat.le_refl _)))
            have HOa := Lib.hid h2
            have hna : la.length ≤ 70000000 := by rw [HLa.out, List.length_append]; omega
            clear h2 b2 kp SPa HPa BPa hza
            have HEI : Hid (la = l ++ pN x (k + 1)) := by show _ = _; rw [HLa.out, HL2.out, HSU.out, List.append_assoc]
            go_wp2_with fail
            go_roundw
            case rel => exact ⟨k + 1, Ua, uca, by omega, by go_num, by rw [← HEI.out], by rw [← HEI.out]; exact HOa.out, BWa.out⟩
            case measure => simp [intOf]; omega
          · obtain rfl : k = x.numbers.length := by omega
            have hnn : ¬ (x.numbers.length : Int) < x.numbers.length := by omega
            obtain ⟨q0, q1, g0, g1⟩ := HCE.out.below BW2.out (Nat.le_refl _)
            have k0 := (HBX.out.below BW2.out (Nat.le_refl _)).c0
            have hcl : C + 1 < w2.heap.size := by have := BW2.out.size; have := HZC.out; omega
            have HQ : Hid (l2 = payS x.r) := by show _ = _; rw [HPQ3.out, HL2.out]
            go_wp2_with fail
            refine bodyPost_ret (v := .agg #[.int .u8 (64 + x.op), .slice U2 l2.length uc2]) (by simp [results, Try.results19, go_sem, q0, q1]) rfl ⟨U2, uc2, by rw [HQ.out], ?_, ?_⟩
            · have hCw := HCW.out; have hz2 := HZC.out
              rw [← HQ.out]
              have hM := HO2.out.only (((Only.refl (fun j => j = C + 1) _).put (ad := ⟨C + 1, 0, none⟩) rfl (.int .u8 (64 + x.op))).put (ad := ⟨C + 1, 1, none⟩) rfl (.slice U2 l2.length uc2)) (fun a ha e => by have := (HO2.out.base ha).1; omega)
              exact fre_mine (hM.mono (by omega))
            · have hCw := HCW.out
              have h1 := HB.out.trans (BW2.out.mono HB.out.size)
              exact (h1.setCell (by show w.heap.size ≤ C + 1; omega) _).setCell (by show w.heap.size ≤ C + 1; omega) _
end Go.Proofs.Ythlfahblnpijaaa.Sw
