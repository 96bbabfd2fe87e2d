/- Proves what the law's check of All returns at given answers: true. Conditions: few bytes. -/
import Derived.Test.YtmphielkohnpgaaDa
import Derived.Deep.RegionHeld3
namespace Go.Proofs.Ytmphielkohnpgaa.Df
open Go.RowKit Vm Ap Vw Va Gc Fm Fw Mi Mb Fr Dm Dl Fo Da

/-- What the check is given: frames and errors that say what comes. -/
structure Given (w : World) (X : Option Addr) (E : Option Addr) (fs : List Frm) (es : List Nat) : Prop where
  rf : Rf w X fs
  pay : ∀ x ∈ fs, Rb w x.A x.p
  re : Ri w E es
theorem rf_below {w w' : World} {X : Option Addr} {fs : List Frm} (h : Rf w X fs) {B : Nat} (hb : Below B w w') (hB : w.heap.size ≤ B) : Rf w' X fs := fun h0 => by
  obtain ⟨b, o, rfl, hlt, hc⟩ := h h0
  exact ⟨b, o, rfl, Nat.lt_of_lt_of_le hlt hb.size, fun j hj => ⟨by rw [hb.cell (p := ⟨b, o + j * 2, none⟩) (by show b < B; omega)]; exact (hc j hj).1, by rw [hb.cell (p := ⟨b, o + j * 2 + 1, none⟩) (by show b < B; omega)]; exact (hc j hj).2⟩⟩
theorem ri_below {w w' : World} {X : Option Addr} {es : List Nat} (h : Ri w X es) {B : Nat} (hb : Below B w w') (hB : w.heap.size ≤ B) : Ri w' X es := fun h0 => by
  obtain ⟨b, o, rfl, hlt, hc⟩ := h h0
  exact ⟨b, o, rfl, Nat.lt_of_lt_of_le hlt hb.size, fun j hj => by rw [hb.cell (p := ⟨b, o + j, none⟩) (by show b < B; omega)]; exact hc j hj⟩
theorem Given.below {w w' : World} {X E : Option Addr} {fs : List Frm} {es : List Nat} (h : Given w X E fs es) {B : Nat} (hb : Below B w w') (hB : w.heap.size ≤ B) : Given w' X E fs es :=
  ⟨rf_below h.rf hb hB, fun x hx => (h.pay x hx).below hb hB, ri_below h.re hb hB⟩
theorem Outs.given {K : Nat} {w : World} {FA EA : Option Addr} {fc ec : Nat} {fs : List Frm} {es : List Nat} (h : Outs K w FA fc EA ec fs es) : Given w FA EA fs es := ⟨rf_mine h.mf, fun x hx => (h.pay x hx).1, ri_mine h.me⟩
theorem saysF_get {fs : List Frm} {gs : List Got} (h : saysF fs gs) {k : Nat} (h1 : k < fs.length) (h2 : k < gs.length) : fs[k].c = gs[k].1 ∧ fs[k].p = gs[k].2.1 := by
  have e := congrArg (fun l => l[k]?) h
  simp only [List.getElem?_map, List.getElem?_eq_getElem h1, List.getElem?_eq_getElem h2, Option.map_some] at e
  injection e with e
  injection e with e1 e2
  exact ⟨e1, e2⟩
set_option maxRecDepth 100000 in
set_option maxHeartbeats 4000000 in
theorem all_true (A : Option Addr) (l : Bs) (n c : Nat) (m : Int) (w : World) (hn : l.length = n) (hA : Rb w A l) (hAn : A = none → c = 0) (hl : l.length ≤ 100000) (hm : okM m) (X E : Option Addr) (fs : List Frm) (es : List Nat) (k1 k2 xc ec : Nat)
    (hg : Given w X E fs es) (hs : saysF fs (allG m l)) (he : (allG m l).map (·.2.2) = es) (h1 : fs.length = k1) (h2 : es.length = k2) :
    Calls Try.prog 24 #[.slice A n c, .int .i64 m, .slice X k1 xc, .slice E k2 ec] w (boolOf true w) := by
  have hlen := saysF_len hs
  have hel : es.length = (allG m l).length := by rw [← he, List.length_map]
  have hal := allG_len hm l
  obtain rfl : k1 = (allG m l).length := by omega
  obtain rfl : k2 = (allG m l).length := by omega
  have HALL := Lib.hid (all_any A l n c m w hn hA hAn hl)
  have HG := Lib.hid hg; have HS := Lib.hid hs; have HE := Lib.hid he; have HM := Lib.hid hm
  obtain ⟨gs, hgs⟩ : ∃ gs, gs = allG m l := ⟨_, rfl⟩
  unfold allPost at HALL
  rw [← hgs] at HALL HS HE hlen hel hal
  rw [← hgs]
  clear hg hs he h1 h2 hA hAn hgs
  go_enter Try.func24, Try.ntmps24
  go_wp2_with fail
  refine HALL.out.mono ?_
  rintro e w1 ⟨hb, (⟨hno, _⟩ | ⟨_, FA, fc, EA, yc, fs', rfl, ho, hs'⟩)⟩
  case' inl => exact absurd HM.out hno
  case' inr =>
    have HO := Lib.hid (Outs.given ho)
    have HB := Lib.hid hb
    have HG1 := Lib.hid (HG.out.below hb (Nat.le_refl _))
    have HS' := Lib.hid hs'
    have hlen' := saysF_len hs'
    clear ho hb hs'
    go_wp2_with fail
    go_loopw [38] (fun i wr => ∃ k : Nat, k ≤ gs.length ∧ i = .int .i64 (k : Int) ∧ Below w1.heap.size w1 wr) (fun i _ => gs.length - (intOf i).toNat)
    case atStart => exact ⟨0, Nat.zero_le _, rfl, Below.refl _ _⟩
    case round =>
      obtain ⟨k, hk, rfl, hbr⟩ := hrel
      have HBR := Lib.hid hbr
      by_cases hlt : k < gs.length
      · have hkf : k < fs.length := by omega
        have hkf' : k < fs'.length := by omega
        obtain ⟨xb, xo, rfl, hxb, hxc⟩ := HG1.out.rf (by omega)
        obtain ⟨eb, eo, rfl, heb, hec⟩ := HG1.out.re (by omega)
        obtain ⟨yb, yo, rfl, hyb, hyc⟩ := HO.out.rf (by omega)
        obtain ⟨zb, zo, rfl, hzb, hzc⟩ := HO.out.re (by simp; omega)
        obtain ⟨x0, x1⟩ := hxc k hkf
        obtain ⟨y0, y1⟩ := hyc k hkf'
        have z0 := hzc k (by simp; omega)
        have e0 := hec k (by omega)
        have px := HG1.out.pay _ (List.getElem_mem hkf)
        have py := HO.out.pay _ (List.getElem_mem hkf')
        obtain ⟨s1, s2⟩ := saysF_get HS.out hkf hlt
        obtain ⟨t1, t2⟩ := saysF_get HS'.out hkf' hlt
        have ez : (gs.map (fun x => x.2.2))[k]'(by simp; omega) = (gs[k]'hlt).2.2 := by simp
        have ee : es[k]'(by omega) = (gs[k]'hlt).2.2 := by
          have := HE.out
          subst this
          simp
        rw [ez] at z0
        rw [ee] at e0
        obtain ⟨x, hx⟩ : ∃ x, x = fs[k] := ⟨_, rfl⟩
        obtain ⟨y, hy⟩ : ∃ y, y = fs'[k] := ⟨_, rfl⟩
        obtain ⟨gk, hgk⟩ : ∃ gk, gk = gs[k] := ⟨_, rfl⟩
        rw [← hx] at x0 x1 px s1 s2
        rw [← hy] at y0 y1 py t1 t2
        rw [← hgk] at z0 e0 s1 s2 t1 t2
        obtain ⟨xC, xA, xk, xp⟩ := x
        obtain ⟨yC, yA, yk, yp⟩ := y
        simp only at x0 x1 px s1 s2 y0 y1 py t1 t2
        subst s1; subst t1; subst s2; subst t2
        have HQ : Hid (∀ W, Below w1.heap.size w1 W → Calls Try.prog 16 #[.agg #[.int .u8 (gk.1.toNat : Int), .slice yA gk.2.1.length yk], .agg #[.int .u8 (gk.1.toNat : Int), .slice xA gk.2.1.length xk]] W (boolOf true W)) := fun W hW => by
          have := requal_any gk.1 gk.1 yA xA gk.2.1 gk.2.1 yk xk W (py.below hW (Nat.le_refl _)) (px.below hW (Nat.le_refl _))
          rw [eqv_self] at this; exact this
        have x0' : ∀ v, Below w1.heap.size w1 v → v.cell? ⟨xb, xo + k * 2, none⟩ = some (.int .u8 (gk.1.toNat : Int)) := fun v hv => by rw [hv.cell (p := ⟨xb, xo + k * 2, none⟩) hxb]; exact x0
        have x1' : ∀ v, Below w1.heap.size w1 v → v.cell? ⟨xb, xo + k * 2 + 1, none⟩ = some (.slice xA gk.2.1.length xk) := fun v hv => by rw [hv.cell (p := ⟨xb, xo + k * 2 + 1, none⟩) hxb]; exact x1
        have y0' : ∀ v, Below w1.heap.size w1 v → v.cell? ⟨yb, yo + k * 2, none⟩ = some (.int .u8 (gk.1.toNat : Int)) := fun v hv => by rw [hv.cell (p := ⟨yb, yo + k * 2, none⟩) hyb]; exact y0
        have y1' : ∀ v, Below w1.heap.size w1 v → v.cell? ⟨yb, yo + k * 2 + 1, none⟩ = some (.slice yA gk.2.1.length yk) := fun v hv => by rw [hv.cell (p := ⟨yb, yo + k * 2 + 1, none⟩) hyb]; exact y1
        have z0' : ∀ v, Below w1.heap.size w1 v → v.cell? ⟨zb, zo + k, none⟩ = some (.int .i64 (gk.2.2 : Int)) := fun v hv => by rw [hv.cell (p := ⟨zb, zo + k, none⟩) hzb]; exact z0
        have e0' : ∀ v, Below w1.heap.size w1 v → v.cell? ⟨eb, eo + k, none⟩ = some (.int .i64 (gk.2.2 : Int)) := fun v hv => by rw [hv.cell (p := ⟨eb, eo + k, none⟩) heb]; exact e0
        have i1 : (k : Int) < gs.length := by omega
        clear hxc hec hyc hzc px py ez ee hx hy hgk x0 x1 y0 y1 z0 e0
        go_wp2_with fail
        refine wp_region_noPanic ?_
        refine wp_region_held_drew (S := fun v => Below w1.heap.size w1 v) (by kernel_rfl) (HBR.out.drew) (fun hHeld => ?_)
        refine wpAnyH_take (i := 0) (oi := ⟨some 41, _, _, _, _, _⟩) (v := ?_) rfl (by kernel_rfl) (by kernel_rfl) (by kernel_rfl) (fun _ _ _ h => h) (Or.inl ⟨by rfl, ?_⟩) (by assumption) ?_
        rotate_left
        · intro w hSw; go_simp; first | done | with_reducible rfl
        try simp only [Act.put, List.setIfInBounds_toArray, List.set_cons_zero, List.set_cons_succ]
        refine wpAnyH_take (i := 1) (oi := ⟨some 42, _, _, _, _, _⟩) (v := ?_) rfl (by kernel_rfl) (by kernel_rfl) (by kernel_rfl) (fun _ _ _ h => h) (Or.inl ⟨by rfl, ?_⟩) (by assumption) ?_
        rotate_left
        · intro w hSw; go_simp; first | done | with_reducible rfl
        try simp only [Act.put, List.setIfInBounds_toArray, List.set_cons_zero, List.set_cons_succ]
        refine wpAnyH_take (i := 2) (oi := ⟨some 43, _, _, _, _, _⟩) (v := ?_) rfl (by kernel_rfl) (by kernel_rfl) (by kernel_rfl) (fun _ _ _ h => h) (Or.inl ⟨by rfl, ?_⟩) (by assumption) ?_
        rotate_left
        · intro w hSw; go_simp; first | done | with_reducible rfl
        try simp only [Act.put, List.setIfInBounds_toArray, List.set_cons_zero, List.set_cons_succ]
        refine wpAnyH_take (i := 3) (oi := ⟨some 44, _, _, _, _, _⟩) (v := ?_) rfl (by kernel_rfl) (by kernel_rfl) (by kernel_rfl) (fun _ _ _ h => h) (Or.inl ⟨by rfl, ?_⟩) (by assumption) ?_
        rotate_left
        · intro w hSw; go_simp; first | done | with_reducible rfl
        try simp only [Act.put, List.setIfInBounds_toArray, List.set_cons_zero, List.set_cons_succ]
        refine wpAnyH_take (i := 4) (oi := ⟨some 45, _, _, _, _, _⟩) (v := ?_) rfl (by kernel_rfl) (by kernel_rfl) (by kernel_rfl) (fun _ _ _ h => h) (Or.inl ⟨by rfl, ?_⟩) (by assumption) ?_
        rotate_left
        · intro w hSw; go_simp; first | done | with_reducible rfl
        try simp only [Act.put, List.setIfInBounds_toArray, List.set_cons_zero, List.set_cons_succ]
        refine wpAnyH_take (i := 5) (oi := ⟨some 46, _, _, _, _, _⟩) (v := ?_) rfl (by kernel_rfl) (by kernel_rfl) (by kernel_rfl) (fun _ _ _ h => h) (Or.inl ⟨by rfl, ?_⟩) (by assumption) ?_
        rotate_left
        · intro w hSw; go_simp; first | done | with_reducible rfl
        try simp only [Act.put, List.setIfInBounds_toArray, List.set_cons_zero, List.set_cons_succ]
        refine wpAnyH_take (i := 6) (oi := ⟨some 47, _, _, _, _, _⟩) (v := ?_) rfl (by kernel_rfl) (by kernel_rfl) (by kernel_rfl) (fun _ _ _ h => h) (Or.inl ⟨by rfl, ?_⟩) (by assumption) ?_
        rotate_left
        · intro w hSw; go_simp; first | done | with_reducible rfl
        try simp only [Act.put, List.setIfInBounds_toArray, List.set_cons_zero, List.set_cons_succ]
        refine wpAnyH_take (i := 7) (oi := ⟨some 48, _, _, _, _, _⟩) (v := ?_) rfl (by kernel_rfl) (by kernel_rfl) (by kernel_rfl) (fun _ _ _ h => h) (Or.inl ⟨by rfl, ?_⟩) (by assumption) ?_
        rotate_left
        · intro w hSw; go_simp; first | done | with_reducible rfl
        try simp only [Act.put, List.setIfInBounds_toArray, List.set_cons_zero, List.set_cons_succ]
        refine wpAnyH_ready (rs := [8]) (by kernel_rfl) (by simp) ?_
        refine AllReadyH.cons (o := ⟨some 49, _, _, _, _, _⟩) rfl (fun K hK => ?_) AllReadyH.nil
        go_simp
        refine (HQ.out _ hHeld).mono ?_
        rintro e w2 ⟨rfl, hbw⟩
        go_simp
        refine hK.out _ _ (step0 hHeld hbw) (fun hHeld => ?_)
        clear hK K
        try simp only [Act.put, List.setIfInBounds_toArray, List.set_cons_zero, List.set_cons_succ]
        refine wpAnyH_take (i := 9) (oi := ⟨some 50, _, _, _, _, _⟩) (v := ?_) rfl (by kernel_rfl) (by kernel_rfl) (by kernel_rfl) (fun _ _ _ h => h) (Or.inl ⟨by rfl, ?_⟩) (by assumption) ?_
        rotate_left
        · intro w hSw; go_simp; first | done | with_reducible rfl
        try simp only [Act.put, List.setIfInBounds_toArray, List.set_cons_zero, List.set_cons_succ]
        refine wpAnyH_take (i := 10) (oi := ⟨some 51, _, _, _, _, _⟩) (v := ?_) rfl (by kernel_rfl) (by kernel_rfl) (by kernel_rfl) (fun _ _ _ h => h) (Or.inl ⟨by rfl, ?_⟩) (by assumption) ?_
        rotate_left
        · intro w hSw; go_simp; first | done | with_reducible rfl
        try simp only [Act.put, List.setIfInBounds_toArray, List.set_cons_zero, List.set_cons_succ]
        refine wpAnyH_take (i := 11) (oi := ⟨some 52, _, _, _, _, _⟩) (v := ?_) rfl (by kernel_rfl) (by kernel_rfl) (by kernel_rfl) (fun _ _ _ h => h) (Or.inl ⟨by rfl, ?_⟩) (by assumption) ?_
        rotate_left
        · intro w hSw; go_simp; first | done | with_reducible rfl
        try simp only [Act.put, List.setIfInBounds_toArray, List.set_cons_zero, List.set_cons_succ]
        refine wpAnyH_take (i := 12) (oi := ⟨some 53, _, _, _, _, _⟩) (v := ?_) rfl (by kernel_rfl) (by kernel_rfl) (by kernel_rfl) (fun _ _ _ h => h) (Or.inl ⟨by rfl, ?_⟩) (by assumption) ?_
        rotate_left
        · intro w hSw; go_simp; first | done | with_reducible rfl
        try simp only [Act.put, List.setIfInBounds_toArray, List.set_cons_zero, List.set_cons_succ]
        refine wpAnyH_take (i := 13) (oi := ⟨some 54, _, _, _, _, _⟩) (v := ?_) rfl (by kernel_rfl) (by kernel_rfl) (by kernel_rfl) (fun _ _ _ h => h) (Or.inl ⟨by rfl, ?_⟩) (by assumption) ?_
        rotate_left
        · intro w hSw; go_simp; first | done | with_reducible rfl
        try simp only [Act.put, List.setIfInBounds_toArray, List.set_cons_zero, List.set_cons_succ]
        refine wpAnyH_take (i := 14) (oi := ⟨some 55, _, _, _, _, _⟩) (v := ?_) rfl (by kernel_rfl) (by kernel_rfl) (by kernel_rfl) (fun _ _ _ h => h) (Or.inl ⟨by rfl, ?_⟩) (by assumption) ?_
        rotate_left
        · intro w hSw; go_simp; first | done | with_reducible rfl
        try simp only [Act.put, List.setIfInBounds_toArray, List.set_cons_zero, List.set_cons_succ]
        refine wpAnyH_take (i := 15) (oi := ⟨some 56, _, _, _, _, _⟩) (v := ?_) rfl (by kernel_rfl) (by kernel_rfl) (by kernel_rfl) (fun _ _ _ h => h) (Or.inl ⟨by rfl, ?_⟩) (by assumption) ?_
        rotate_left
        · intro w hSw; go_simp; first | done | with_reducible rfl
        try simp only [Act.put, List.setIfInBounds_toArray, List.set_cons_zero, List.set_cons_succ]
        refine wpAnyH_take (i := 16) (oi := ⟨some 57, _, _, _, _, _⟩) (v := ?_) rfl (by kernel_rfl) (by kernel_rfl) (by kernel_rfl) (fun _ _ _ h => h) (Or.inl ⟨by rfl, ?_⟩) (by assumption) ?_
        rotate_left
        · intro w hSw; go_simp; first | done | with_reducible rfl
        try simp only [Act.put, List.setIfInBounds_toArray, List.set_cons_zero, List.set_cons_succ]
        refine wpAnyH_take (i := 17) (oi := ⟨some 58, _, _, _, _, _⟩) (v := ?_) rfl (by kernel_rfl) (by kernel_rfl) (by kernel_rfl) (fun _ _ _ h => h) (Or.inl ⟨by rfl, ?_⟩) (by assumption) ?_
        rotate_left
        · intro w hSw; go_simp; first | done | with_reducible rfl
        try simp only [Act.put, List.setIfInBounds_toArray, List.set_cons_zero, List.set_cons_succ]
        refine wpAnyH_take (i := 18) (oi := ⟨some 59, _, _, _, _, _⟩) (v := ?_) rfl (by kernel_rfl) (by kernel_rfl) (by kernel_rfl) (fun _ _ _ h => h) (Or.inl ⟨by rfl, ?_⟩) (by assumption) ?_
        rotate_left
        · intro w hSw; go_simp; first | done | with_reducible rfl
        try simp only [Act.put, List.setIfInBounds_toArray, List.set_cons_zero, List.set_cons_succ]
        refine wpAnyH_take (i := 19) (oi := ⟨some 60, _, _, _, _, _⟩) (v := ?_) rfl (by kernel_rfl) (by kernel_rfl) (by kernel_rfl) (fun _ _ _ h => h) (Or.inl ⟨by rfl, ?_⟩) (by assumption) ?_
        rotate_left
        · intro w hSw; go_simp; first | done | with_reducible rfl
        try simp only [Act.put, List.setIfInBounds_toArray, List.set_cons_zero, List.set_cons_succ]
        refine wpAnyH_take (i := 20) (oi := ⟨some 61, _, _, _, _, _⟩) (v := ?_) rfl (by kernel_rfl) (by kernel_rfl) (by kernel_rfl) (fun _ _ _ h => h) (Or.inl ⟨by rfl, ?_⟩) (by assumption) ?_
        rotate_left
        · intro w hSw; go_simp; first | done | with_reducible rfl
        try simp only [Act.put, List.setIfInBounds_toArray, List.set_cons_zero, List.set_cons_succ]
        refine wpAnyH_done (by kernel_rfl) ?_ _
        refine NoPanic.normal ?_
        have HB2 := Lib.hid hHeld
        clear x0' x1' y0' y1' z0' e0' hHeld hbw
        go_wp2_with fail
        go_roundw
        case rel => exact ⟨k + 1, by omega, by go_num, HB2.out⟩
        case measure => simp [intOf]; omega
      · obtain rfl : k = gs.length := by omega
        have hnn : ¬ (gs.length : Int) < gs.length := by omega
        go_wp2_with fail
        go_ret
        exact ⟨rfl, HB.out.trans (HBR.out.mono HB.out.size)⟩
end Go.Proofs.Ytmphielkohnpgaa.Df
