/- Proves what the store's Put returns, and what it leaves in memory. Conditions: as each theorem names them. -/
import Derived.Test.YtlmljhnogmfcfaaGreatIp
namespace Go.Proofs.YtlmljhnogmfcfaaGreat.Ep
open Go.RowKit Ap Mi Nw Ea Eb Ec Ed Ee El Ia Ib Ic Ik Ie If Ig

theorem rest_no {s : Sx} (h : Ia.Ok s) (k : ByteArray) : ∀ z ∈ rest id s.l k, z.k ≠ k := by
 intro z hz
 unfold rest at hz
 split at hz
 ·rename_i i hi
  obtain ⟨hil, hki⟩ := fnd_some id hi
  simp only [id] at hki
  have hd := h.nd
  rw [← hki]
  intro e
  unfold wo at hz
  rcases List.mem_append.1 hz with hz | hz
  ·obtain ⟨j, hj, rfl⟩ := List.getElem_of_mem hz
   have hji : j < i := by simp at hj; omega
   rw [List.getElem_take] at e
   have h1 := List.getElem_inj (xs := s.l.map (·.k)) (i := j) (j := i) (h₀ := by simp; omega) (h₁ := by simpa using hil) hd
   simp only [List.getElem_map] at h1
   have := h1.1 e
   omega
  ·obtain ⟨j, hj, rfl⟩ := List.getElem_of_mem hz
   have hjl : i + 1 + j < s.l.length := by simp at hj; omega
   rw [List.getElem_drop] at e
   have h1 := List.getElem_inj (xs := s.l.map (·.k)) (i := i + 1 + j) (j := i) (h₀ := by simpa using hjl) (h₁ := by simpa using hil) hd
   simp only [List.getElem_map] at h1
   have := h1.1 e
   omega
 ·rename_i hn
  exact fnd_none id hn z hz
section
variable {F Kd : Nat → Prop} {w : World} {g : Nat} {s : Sx}
set_option maxRecDepth 100000 in
set_option maxHeartbeats 1000000 in
theorem put_bad (h : Sg Kd F w g s) {x : Em} {G : Nat → Prop} (hx : ∀ v, Only F w v → RE G v x) {e : Int} (hP : putN s x.e = e) (hN : Jc.costN x.e.k x.e.v.length x.e.t = e) (he0 : e ≠ 0) :
  Calls Tryz.prog 22 #[.pointer (some ⟨g, 0, none⟩), emV x] w (putH Kd F w g (putT s x.e) (putG s x.e) (putN s x.e)) := by
 obtain ⟨p, ns, q, c, hB, hF⟩ := h.has
 have HB := Lib.hid hB
 have HF := Lib.hid hF
 have HH := Lib.hid h
 have HX := Lib.hid hx
 have h0 := hx w (Only.refl _ _)
 have HFIT := Lib.hid h0.f
 have hfv := h0.f.v; have hft := h0.f.t
 obtain ⟨C, hC⟩ : ∃ C, C = w.heap.size := ⟨_, rfl⟩
 obtain ⟨v1, hv1⟩ : ∃ v1, v1 = w.alloc (.cells (emA x) 42) := ⟨_, rfl⟩
 have HT1 : Hid (Tk p w [(C, emA x, 42)] [] (col p 0 w.heap.size) v1 g q c) := by
  have hb : Below w.heap.size w v1 := by rw [hv1]; exact bnew _ _
  exact ((Tk.start hB.lo).below hb).add (by rw [hv1, hC]; exact Blk.new w _ _) (col_ge (by omega))
 have HW1 : Hid (Below w.heap.size w v1) := by show Below _ _ _; rw [hv1]; exact bnew _ _
 obtain ⟨p1, hp1⟩ : ∃ p1, p1 = col p 0 w.heap.size := ⟨_, rfl⟩
 rw [← hp1] at HT1
 clear hp1
 have HU := Lib.hid (Ik.usable_any HT1.out.lo)
 have HCO := Lib.hid (Je.pcost_any x.e.k x.e.v.length x.b x.a x.A x.B x.e.t v1 (hx v1 (Only.of_below HW1.out (Nat.le_refl _) _)).t hfv hft h0.f.e)
 rw [hN] at HCO
 obtain ⟨z, hz⟩ : ∃ z, z = Jc.costV x.e.k x.e.v.length x.e.t := ⟨_, rfl⟩
 rw [← hz] at HCO
 have HE : Hid (putN s x.e = e ∧ putT s x.e = s ∧ putG s x.e = []) := ⟨hP, by unfold putT; rw [if_neg (by rw [hP]; exact he0)], by unfold putG; rw [if_neg (by rw [hP]; exact he0)]⟩
 have hne : (e != 0) = true := by simpa using he0
 clear h hB hF hx h0 hz hN hP he0
 unfold emV
 unfold emA at hv1
 go_enter Tryz.func22, Tryz.ntmps22
 go_wp2_with fail
 rw [← hv1, ← hC]
 clear hv1 hC
 refine HU.out.mono ?_
 rintro _ w1 ⟨rfl, rfl⟩
 have HKX := (HT1.out.get (b := C) (cs := emA x) (t := 42) (by simp)).1
 unfold emA at HKX
 obtain ⟨x0, x1, x2, x3, x4, x5, xf⟩ := six HKX
 have hxl := HKX.lt
 clear HKX xf
 go_wp2_with fail
 clear x0 x1 x2 x3 x4 x5 hxl
 refine HCO.out.mono ?_
 rintro _ v2 ⟨rfl, b2⟩
 have HB2 := Lib.hid (HW1.out.trans (b2.mono HW1.out.size))
 clear b2
 go_wp2_with fail
 go_ret2
 obtain ⟨e1, e2, e3⟩ := HE.out
 unfold putH
 rw [e1, e2, e3]
 exact ⟨_, _, none, 0, [], rfl, rfl, Hd.nil, gavg_same HH.out HB2.out⟩
set_option maxRecDepth 100000 in
set_option maxHeartbeats 1000000 in
theorem put_big (h : Sg Kd F w g s) {x : Em} {G : Nat → Prop} (hx : ∀ v, Only F w v → RE G v x) (hP : putN s x.e = 12) (hok : okE x.e) (hbig : s.b < (cost x.e : Int)) :
  Calls Tryz.prog 22 #[.pointer (some ⟨g, 0, none⟩), emV x] w (putH Kd F w g (putT s x.e) (putG s x.e) (putN s x.e)) := by
 obtain ⟨p, ns, q, c, hB, hF⟩ := h.has
 have HB := Lib.hid hB
 have HF := Lib.hid hF
 have HH := Lib.hid h
 have HX := Lib.hid hx
 have h0 := hx w (Only.refl _ _)
 have HFIT := Lib.hid h0.f
 have hfv := h0.f.v; have hft := h0.f.t
 obtain ⟨C, hC⟩ : ∃ C, C = w.heap.size := ⟨_, rfl⟩
 obtain ⟨v1, hv1⟩ : ∃ v1, v1 = w.alloc (.cells (emA x) 42) := ⟨_, rfl⟩
 have HT1 : Hid (Tk p w [(C, emA x, 42)] [] (col p 0 w.heap.size) v1 g q c) := by
  have hb : Below w.heap.size w v1 := by rw [hv1]; exact bnew _ _
  exact ((Tk.start hB.lo).below hb).add (by rw [hv1, hC]; exact Blk.new w _ _) (col_ge (by omega))
 have HW1 : Hid (Below w.heap.size w v1) := by show Below _ _ _; rw [hv1]; exact bnew _ _
 obtain ⟨p1, hp1⟩ : ∃ p1, p1 = col p 0 w.heap.size := ⟨_, rfl⟩
 rw [← hp1] at HT1
 clear hp1
 have HU := Lib.hid (Ik.usable_any HT1.out.lo)
 have HCO := Lib.hid (Je.pcost_any x.e.k x.e.v.length x.b x.a x.A x.B x.e.t v1 (hx v1 (Only.of_below HW1.out (Nat.le_refl _) _)).t hfv hft h0.f.e)
 have HCV : Hid (Jc.costV x.e.k x.e.v.length x.e.t = (cost x.e : Int)) := cost_v hok
 have HCN : Hid (Jc.costN x.e.k x.e.v.length x.e.t = 0) := (Jc.cost_good (⟨hok.1, hok.2.2⟩ : Jc.keyOk x.e.k ∧ Jc.okT x.e.t) hok.2.1).2
 rw [HCV.out, HCN.out] at HCO
 have HFB : Hid (Ja.fitB c.k (cost x.e : Int) = false) := by show _ = _; unfold Ja.fitB; rw [hB.rel.k]; simp only; exact decide_eq_false (fun hh => by omega)
 have HE : Hid (putN s x.e = 12 ∧ putT s x.e = s ∧ putG s x.e = []) := ⟨hP, by unfold putT; rw [if_neg (by rw [hP]; decide)], by unfold putG; rw [if_neg (by rw [hP]; decide)]⟩
 clear h hB hF hx h0 hP hbig hok
 unfold emV
 unfold emA at hv1
 go_enter Tryz.func22, Tryz.ntmps22
 go_wp2_with fail
 rw [← hv1, ← hC]
 clear hv1 hC
 refine HU.out.mono ?_
 rintro _ w1 ⟨rfl, rfl⟩
 have HKX := (HT1.out.get (b := C) (cs := emA x) (t := 42) (by simp)).1
 unfold emA at HKX
 obtain ⟨x0, x1, x2, x3, x4, x5, xf⟩ := six HKX
 have hxl := HKX.lt
 clear HKX xf
 go_wp2_with fail
 clear x0 x1 x2 x3 x4 x5 hxl
 refine HCO.out.mono ?_
 rintro _ v2 ⟨rfl, b2⟩
 have HT2 := Lib.hid (HT1.out.below b2)
 clear b2
 obtain ⟨p2, hp2⟩ : ∃ p2, p2 = col p1 0 w1.heap.size := ⟨_, rfl⟩
 rw [← hp2] at HT2
 clear hp2
 have HFI := Lib.hid (Je.fits_any HT2.out.lo.ac (cost x.e : Int))
 rw [HFB.out] at HFI
 obtain ⟨g0, g1, g2, g3, g4, g5⟩ := Ik.Lo.six HT2.out.lo
 have hgl := HT2.out.lo.lt
 go_wp2_with fail
 clear g0 g1 g2 g3 g4 g5 hgl
 refine HFI.out.mono ?_
 rintro _ v3 ⟨rfl, b3⟩
 have HT3 := Lib.hid (HT2.out.below b3)
 clear b3
 obtain ⟨p3, hp3⟩ : ∃ p3, p3 = col p2 0 v2.heap.size := ⟨_, rfl⟩
 rw [← hp3] at HT3
 clear hp3 HFI HCO HU
 go_wp2_with fail
 go_ret2
 obtain ⟨e1, e2, e3⟩ := HE.out
 unfold putH
 rw [e1, e2, e3]
 have HG := HH.out.tight
 exact ⟨_, _, none, 0, [], rfl, rfl, Hd.nil, gavg HF.out HT3.out.st ⟨HT3.out.lo, HB.out.rel, HB.out.r, HB.out.m⟩⟩
theorem Evd.back {p1 : Nat → Nat} {w w2 v : World} {A : Option Addr} {n : Nat} {l : List Em} (h : Evd p1 w2 v A n l) (hz : w.heap.size ≤ w2.heap.size) : Evd p1 w v A n l :=
 ⟨h.mi.mono hz, fun y hy => by have := h.gv y hy; exact ⟨this.ow.base hz, this.re.mono fun _ hj => ⟨hj.1, Nat.le_trans hz hj.2⟩⟩, h.pz, h.ap⟩
set_option maxRecDepth 100000 in
set_option maxHeartbeats 4000000 in
theorem put_old {p : Nat → Nat} {ns : List Nat} {q : Ptr} {c : Ct} (hB0 : Bt (fun _ => True) 0 0 p w g s ns q c) (hF : Hf Kd F p w) {x : Em} {G : Nat → Prop} (hx : ∀ v, Only F w v → RE G v x) (hP : putN s x.e = 0) (hok : okE x.e) (hle : (cost x.e : Int) ≤ s.b) {i : Nat} (hi : i < ns.length) (hfi : fnd id s.l x.e.k = some i) (hgt : Tf.Gets c.t (kb x.e.k) (ns[i] : Int) 0) :
  Calls Tryz.prog 22 #[.pointer (some ⟨g, 0, none⟩), emV x] w (putH Kd F w g (putT s x.e) (putG s x.e) (putN s x.e)) := by
 have hB := hB0
 have HB := Lib.hid hB
 have HF := Lib.hid hF
 have HX := Lib.hid hx
 have h0 := hx w (Only.refl _ _)
 have HFIT := Lib.hid h0.f
 have hfv := h0.f.v; have hft := h0.f.t
 obtain ⟨C, hC⟩ : ∃ C, C = w.heap.size := ⟨_, rfl⟩
 obtain ⟨v1, hv1⟩ : ∃ v1, v1 = w.alloc (.cells (emA x) 42) := ⟨_, rfl⟩
 have HT1 : Hid (Tk p w [(C, emA x, 42)] [] (col p 0 w.heap.size) v1 g q c) := by
  have hb : Below w.heap.size w v1 := by rw [hv1]; exact bnew _ _
  exact ((Tk.start hB.lo).below hb).add (by rw [hv1, hC]; exact Blk.new w _ _) (col_ge (by omega))
 have HW1 : Hid (Below w.heap.size w v1) := by show Below _ _ _; rw [hv1]; exact bnew _ _
 obtain ⟨p1, hp1⟩ : ∃ p1, p1 = col p 0 w.heap.size := ⟨_, rfl⟩
 rw [← hp1] at HT1
 clear hp1
 have HU := Lib.hid (Ik.usable_any HT1.out.lo)
 have HCO := Lib.hid (Je.pcost_any x.e.k x.e.v.length x.b x.a x.A x.B x.e.t v1 (hx v1 (Only.of_below HW1.out (Nat.le_refl _) _)).t hfv hft h0.f.e)
 have HCV : Hid (Jc.costV x.e.k x.e.v.length x.e.t = (cost x.e : Int)) := cost_v hok
 have HCN : Hid (Jc.costN x.e.k x.e.v.length x.e.t = 0) := (Jc.cost_good (⟨hok.1, hok.2.2⟩ : Jc.keyOk x.e.k ∧ Jc.okT x.e.t) hok.2.1).2
 rw [HCV.out, HCN.out] at HCO
 have HFB : Hid (Ja.fitB c.k (cost x.e : Int) = true) := by show _ = _; unfold Ja.fitB; rw [hB.rel.k]; simp only; exact decide_eq_true ⟨cost_c hok, hle⟩
 obtain ⟨rs, hrs⟩ : ∃ rs, rs = rest id s.l x.e.k := ⟨_, rfl⟩
 have HRN : Hid (∀ z ∈ rs, z.k ≠ x.e.k) := by rw [hrs]; exact rest_no hB.rel.ok _
 obtain ⟨K, hK⟩ : ∃ K, K = evN s.b s.e (cost x.e) rs := ⟨_, rfl⟩
 have HST : Hid (¬ evQ s.b s.e (cost x.e) rs K) := by rw [hK]; exact evN_stop hB.rel.ok.bb.2.2.1 hle rs
 have HE : Hid (putN s x.e = 0 ∧ putT s x.e = { s with l := rs.drop K ++ [x.e] } ∧ putG s x.e = rs.take K) := ⟨hP, by unfold putT; rw [if_pos hP, ← hrs, ← hK], by unfold putG; rw [if_pos hP, ← hrs, ← hK]⟩
 have HOK := Lib.hid hok
 have HLE := Lib.hid hle
 have HKK := Lib.hid hK
 have hRS : rs = wo s.l i := by rw [hrs]; unfold rest; rw [hfi]
 have HTKA : Hid (∀ v p4, Bt (fun _ => True) 0 0 p4 v g s ns q c → Calls Tryz.prog 64 #[.pointer (some ⟨g, 0, none⟩), .int .i64 (ns[i] : Int)] v (takePost (fun _ => True) 0 0 p4 v g { s with l := rs } (wn ns ns[i]) q (en c.E ns[i]))) := fun v p4 hv => by have := take_any hv hi; rw [← hRS] at this; exact this
 obtain ⟨m, hm⟩ : ∃ m, m = ns[i] := ⟨_, rfl⟩
 rw [← hm] at HTKA hgt
 have HGT := Lib.hid hgt
 have hks : x.e.k.size ≤ 1000000 := h0.f.k
 clear hB0 hB hF hx h0 hP hle hok hrs hK hfi hgt hi hRS hm
 unfold emV
 unfold emA at hv1
 go_enter Tryz.func22, Tryz.ntmps22
 go_wp2_with fail
 rw [← hv1, ← hC]
 clear hv1 hC
 refine HU.out.mono ?_
 rintro _ w1 ⟨rfl, rfl⟩
 have HKX := (HT1.out.get (b := C) (cs := emA x) (t := 42) (by simp)).1
 unfold emA at HKX
 obtain ⟨x0, x1, x2, x3, x4, x5, xf⟩ := six HKX
 have hxl := HKX.lt
 clear HKX xf
 go_wp2_with fail
 clear x0 x1 x2 x3 x4 x5 hxl
 refine HCO.out.mono ?_
 rintro _ v2 ⟨rfl, b2⟩
 have HT2 := Lib.hid (HT1.out.below b2)
 clear b2
 obtain ⟨p2, hp2⟩ : ∃ p2, p2 = col p1 0 w1.heap.size := ⟨_, rfl⟩
 rw [← hp2] at HT2
 clear hp2
 have HFI := Lib.hid (Je.fits_any HT2.out.lo.ac (cost x.e : Int))
 rw [HFB.out] at HFI
 obtain ⟨g0, g1, g2, g3, g4, g5⟩ := Ik.Lo.six HT2.out.lo
 have hgl := HT2.out.lo.lt
 go_wp2_with fail
 clear g0 g1 g2 g3 g4 g5 hgl
 refine HFI.out.mono ?_
 rintro _ v3 ⟨rfl, b3⟩
 have HT3 := Lib.hid (HT2.out.below b3)
 clear b3
 obtain ⟨p3, hp3⟩ : ∃ p3, p3 = col p2 0 v2.heap.size := ⟨_, rfl⟩
 rw [← hp3] at HT3
 clear hp3 HFI HCO HU
 have HSL := Lib.hid (Ik.slot_any HT3.out.lo x.e.k hks HGT.out)
 have HKX := (HT3.out.get (b := C) (cs := emA x) (t := 42) (by simp)).1
 unfold emA at HKX
 obtain ⟨x0, x1, x2, x3, x4, x5, xf⟩ := six HKX
 have hxl := HKX.lt
 clear HKX xf
 go_wp2_with fail
 clear x0 x1 x2 x3 x4 x5 hxl
 refine HSL.out.mono ?_
 rintro _ v4 ⟨rfl, b4⟩
 have HT4 := Lib.hid (HT3.out.below b4)
 clear b4 HSL
 obtain ⟨p4, hp4⟩ : ∃ p4, p4 = col p3 0 v3.heap.size := ⟨_, rfl⟩
 rw [← hp4] at HT4
 clear hp4
 have HTK := Lib.hid (HTKA.out v4 p4 ⟨HT4.out.lo, HB.out.rel, HB.out.r, HB.out.m⟩)
 go_wp2_with fail
 refine HTK.out.mono ?_
 rintro _ v5 ⟨p5, y5, c5, rfl, _, _, S5, B5⟩
 have HT5 := Lib.hid (HT4.out.next B5.lo S5)
 have HB5 : Hid (Bt (fun _ => True) 0 0 p5 v5 g { s with l := rs } (wn ns m) q c5) := B5
 clear S5 B5 HTK
 obtain ⟨ha1, ha2⟩ := HB5.out.rel.add HOK.out
 have HA1 := Lib.hid ha1
 clear ha1 ha2
 obtain ⟨g0, g1, g2, g3, g4, g5⟩ := Ik.Lo.six HT5.out.lo
 have hgl := HT5.out.lo.lt
 go_wp2_with fail
 clear g0 g1 g2 g3 g4 g5 hgl
 refine (Je.add_any HT5.out.lo.ac (cost x.e : Int)).mono ?_
 rintro _ v6 ⟨rfl, ha, ho⟩
 have HT6 := Lib.hid (HT5.out.next (HT5.out.lo.setC (p' := col p5 6 v5.heap.size) (fun _ hj => col_lt hj) ha ho more_col) (Step.part (by decide) ho))
 have HB6 := Lib.hid (show Bt (fun _ => True) (cost x.e : Int) 1 (col p5 6 v5.heap.size) v6 g { s with l := rs } _ q _ from ⟨HT6.out.lo, HA1.out, HB5.out.r, HB5.out.m⟩)
 clear ha ho
 obtain ⟨p6, hp6⟩ : ∃ p6, p6 = col p5 6 v5.heap.size := ⟨_, rfl⟩
 rw [← hp6] at HT6 HB6
 clear hp6
 have HEV := Lib.hid (evict_any HB6.out HLE.out)
 simp only at HEV
 rw [← HKK.out] at HEV
 go_wp2_with fail
 refine HEV.out.mono ?_
 rintro _ v7 ⟨p7, c7, ns7, A7, n7, l7, rfl, hm7, D7, S7, B7⟩
 have HT7 := Lib.hid (HT6.out.next B7.lo S7)
 have HB7 := Lib.hid B7
 have HD7 := Lib.hid D7
 have HM7 := Lib.hid hm7
 clear hm7 D7 S7 B7 HEV
 have HKX := (HT7.out.get (b := C) (cs := emA x) (t := 42) (by simp)).1
 unfold emA at HKX
 obtain ⟨x0, x1, x2, x3, x4, x5, xf⟩ := six HKX
 have hxl := HKX.lt
 clear HKX xf
 go_wp2_with fail
 clear x0 x1 x2 x3 x4 x5 hxl
 refine (copied_any x v7 (fun v hb => HX.out v ((HT7.out.st.on0.mono HF.out.1).trans (Only.of_below hb (Nat.le_refl _) _)))).mono ?_
 rintro _ v8 ⟨y, hye, rfl, oy, b8⟩
 have HT8 := Lib.hid (HT7.out.next (HT7.out.lo.below b8 8) (Step.below b8 8))
 have HB8 := Lib.hid (show Bt (fun _ => True) (cost x.e : Int) 1 (col p7 8 v7.heap.size) v8 g _ ns7 q c7 from ⟨HT8.out.lo, HB7.out.rel, HB7.out.r, HB7.out.m⟩)
 have HD8 := Lib.hid (HD7.out.step (Step.below b8 8))
 have HY8 : Hid (RE (fun j => col p7 8 v7.heap.size j = 8 ∧ j < v8.heap.size) v8 y) := ⟨oy.f, (own_rs oy.v).1, (own_rs oy.t).1, fun a ha => ⟨col_ge (own_lt oy.v ha).1, (own_lt oy.v ha).2⟩, fun a ha => ⟨col_ge (own_lt oy.t ha).1, (own_lt oy.t ha).2⟩⟩
 have hz8 := b8.size
 have HYE := Lib.hid hye
 clear b8 oy hye
 obtain ⟨p8, hp8⟩ : ∃ p8, p8 = col p7 8 v7.heap.size := ⟨_, rfl⟩
 rw [← hp8] at HT8 HB8 HD8 HY8
 clear hp8
 have HHO : Hid (Calls Tryz.prog 70 #[.pointer (some ⟨g, 0, none⟩), emV y] v8 (holdPost (fun _ => True) p8 v8 g { s with l := rs.drop K ++ [x.e] })) := by
  have hq := HST.out
  unfold evQ at hq
  have hkl : K ≤ rs.length := by rw [HKK.out]; exact evN_le _ _ _ _
  have h1 := HB8.out
  rw [← HYE.out] at h1
  have h2 := hold_any h1 ⟨by rw [HYE.out]; exact HOK.out, by rw [HYE.out]; exact HFIT.out⟩ HY8.out (fun z hz => by rw [HYE.out]; exact HRN.out z (List.mem_of_mem_drop hz)) (by rw [HYE.out]; show (used (rs.drop K) : Int) + (cost x.e : Int) ≤ s.b; omega) (by show ((rs.drop K).length : Int) + 1 ≤ s.e; rw [List.length_drop]; omega) (fun _ => trivial)
  simp only at h2
  rw [HYE.out] at h2
  exact h2
 go_wp2_with fail
 refine HHO.out.mono ?_
 rintro _ v9 ⟨rfl, p9, q9, c9, ns9, S9, B9⟩
 have HD9 := Lib.hid (HD8.out.step S9)
 have HS9 := Lib.hid (HT8.out.st.trans S9)
 have HB9 := Lib.hid B9
 clear S9 B9
 go_wp2_with fail
 go_ret2
 obtain ⟨e1, e2, e3⟩ := HE.out
 unfold putH
 rw [e1, e2, e3]
 have hzz : w.heap.size ≤ v6.heap.size := HT6.out.st.on.size
 refine ⟨_, _, A7, n7, l7, rfl, HM7.out, ?_, gavg HF.out HS9.out HB9.out⟩
 exact Evd.hd (Evd.back HD9.out hzz)
set_option maxRecDepth 100000 in
set_option maxHeartbeats 4000000 in
theorem put_new {p : Nat → Nat} {ns : List Nat} {q : Ptr} {c : Ct} (hB0 : Bt (fun _ => True) 0 0 p w g s ns q c) (hF : Hf Kd F p w) {x : Em} {G : Nat → Prop} (hx : ∀ v, Only F w v → RE G v x) (hP : putN s x.e = 0) (hok : okE x.e) (hle : (cost x.e : Int) ≤ s.b) (hfi : fnd id s.l x.e.k = none) (hgt : Tf.Gets c.t (kb x.e.k) 0 9) :
  Calls Tryz.prog 22 #[.pointer (some ⟨g, 0, none⟩), emV x] w (putH Kd F w g (putT s x.e) (putG s x.e) (putN s x.e)) := by
 have hB := hB0
 have HB := Lib.hid hB
 have HF := Lib.hid hF
 have HX := Lib.hid hx
 have h0 := hx w (Only.refl _ _)
 have HFIT := Lib.hid h0.f
 have hfv := h0.f.v; have hft := h0.f.t
 obtain ⟨C, hC⟩ : ∃ C, C = w.heap.size := ⟨_, rfl⟩
 obtain ⟨v1, hv1⟩ : ∃ v1, v1 = w.alloc (.cells (emA x) 42) := ⟨_, rfl⟩
 have HT1 : Hid (Tk p w [(C, emA x, 42)] [] (col p 0 w.heap.size) v1 g q c) := by
  have hb : Below w.heap.size w v1 := by rw [hv1]; exact bnew _ _
  exact ((Tk.start hB.lo).below hb).add (by rw [hv1, hC]; exact Blk.new w _ _) (col_ge (by omega))
 have HW1 : Hid (Below w.heap.size w v1) := by show Below _ _ _; rw [hv1]; exact bnew _ _
 obtain ⟨p1, hp1⟩ : ∃ p1, p1 = col p 0 w.heap.size := ⟨_, rfl⟩
 rw [← hp1] at HT1
 clear hp1
 have HU := Lib.hid (Ik.usable_any HT1.out.lo)
 have HCO := Lib.hid (Je.pcost_any x.e.k x.e.v.length x.b x.a x.A x.B x.e.t v1 (hx v1 (Only.of_below HW1.out (Nat.le_refl _) _)).t hfv hft h0.f.e)
 have HCV : Hid (Jc.costV x.e.k x.e.v.length x.e.t = (cost x.e : Int)) := cost_v hok
 have HCN : Hid (Jc.costN x.e.k x.e.v.length x.e.t = 0) := (Jc.cost_good (⟨hok.1, hok.2.2⟩ : Jc.keyOk x.e.k ∧ Jc.okT x.e.t) hok.2.1).2
 rw [HCV.out, HCN.out] at HCO
 have HFB : Hid (Ja.fitB c.k (cost x.e : Int) = true) := by show _ = _; unfold Ja.fitB; rw [hB.rel.k]; simp only; exact decide_eq_true ⟨cost_c hok, hle⟩
 obtain ⟨rs, hrs⟩ : ∃ rs, rs = rest id s.l x.e.k := ⟨_, rfl⟩
 have HRN : Hid (∀ z ∈ rs, z.k ≠ x.e.k) := by rw [hrs]; exact rest_no hB.rel.ok _
 obtain ⟨K, hK⟩ : ∃ K, K = evN s.b s.e (cost x.e) rs := ⟨_, rfl⟩
 have HST : Hid (¬ evQ s.b s.e (cost x.e) rs K) := by rw [hK]; exact evN_stop hB.rel.ok.bb.2.2.1 hle rs
 have HE : Hid (putN s x.e = 0 ∧ putT s x.e = { s with l := rs.drop K ++ [x.e] } ∧ putG s x.e = rs.take K) := ⟨hP, by unfold putT; rw [if_pos hP, ← hrs, ← hK], by unfold putG; rw [if_pos hP, ← hrs, ← hK]⟩
 have HOK := Lib.hid hok
 have HLE := Lib.hid hle
 have HKK := Lib.hid hK
 have HRS : Hid (rs = s.l) := by show _ = _; rw [hrs]; unfold rest; rw [hfi]
 have HGT := Lib.hid hgt
 have hks : x.e.k.size ≤ 1000000 := h0.f.k
 clear hB0 hB hF hx h0 hP hle hok hrs hK hfi hgt
 unfold emV
 unfold emA at hv1
 go_enter Tryz.func22, Tryz.ntmps22
 go_wp2_with fail
 rw [← hv1, ← hC]
 clear hv1 hC
 refine HU.out.mono ?_
 rintro _ w1 ⟨rfl, rfl⟩
 have HKX := (HT1.out.get (b := C) (cs := emA x) (t := 42) (by simp)).1
 unfold emA at HKX
 obtain ⟨x0, x1, x2, x3, x4, x5, xf⟩ := six HKX
 have hxl := HKX.lt
 clear HKX xf
 go_wp2_with fail
 clear x0 x1 x2 x3 x4 x5 hxl
 refine HCO.out.mono ?_
 rintro _ v2 ⟨rfl, b2⟩
 have HT2 := Lib.hid (HT1.out.below b2)
 clear b2
 obtain ⟨p2, hp2⟩ : ∃ p2, p2 = col p1 0 w1.heap.size := ⟨_, rfl⟩
 rw [← hp2] at HT2
 clear hp2
 have HFI := Lib.hid (Je.fits_any HT2.out.lo.ac (cost x.e : Int))
 rw [HFB.out] at HFI
 obtain ⟨g0, g1, g2, g3, g4, g5⟩ := Ik.Lo.six HT2.out.lo
 have hgl := HT2.out.lo.lt
 go_wp2_with fail
 clear g0 g1 g2 g3 g4 g5 hgl
 refine HFI.out.mono ?_
 rintro _ v3 ⟨rfl, b3⟩
 have HT3 := Lib.hid (HT2.out.below b3)
 clear b3
 obtain ⟨p3, hp3⟩ : ∃ p3, p3 = col p2 0 v2.heap.size := ⟨_, rfl⟩
 rw [← hp3] at HT3
 clear hp3 HFI HCO HU
 have HSL := Lib.hid (Ik.slot_any HT3.out.lo x.e.k hks HGT.out)
 have HKX := (HT3.out.get (b := C) (cs := emA x) (t := 42) (by simp)).1
 unfold emA at HKX
 obtain ⟨x0, x1, x2, x3, x4, x5, xf⟩ := six HKX
 have hxl := HKX.lt
 clear HKX xf
 go_wp2_with fail
 clear x0 x1 x2 x3 x4 x5 hxl
 refine HSL.out.mono ?_
 rintro _ v4 ⟨rfl, b4⟩
 have HT4 := Lib.hid (HT3.out.below b4)
 clear b4 HSL
 obtain ⟨p4, hp4⟩ : ∃ p4, p4 = col p3 0 v3.heap.size := ⟨_, rfl⟩
 rw [← hp4] at HT4
 clear hp4
 have HT5 : Hid (Tk p w [(C, emA x, 42)] [] p4 v4 g q c) := HT4
 have HB5 : Hid (Bt (fun _ => True) 0 0 p4 v4 g { s with l := rs } ns q c) := by show Bt _ _ _ _ _ _ _ _ _ _; rw [HRS.out]; exact ⟨HT4.out.lo, HB.out.rel, HB.out.r, HB.out.m⟩
 obtain ⟨v5, hv5⟩ : ∃ v5, v5 = v4 := ⟨_, rfl⟩
 obtain ⟨p5, hp5⟩ : ∃ p5, p5 = p4 := ⟨_, rfl⟩
 rw [← hv5, ← hp5] at HT5 HB5
 clear hp5
 obtain ⟨ha1, ha2⟩ := HB5.out.rel.add HOK.out
 have HA1 := Lib.hid ha1
 clear ha1 ha2
 obtain ⟨g0, g1, g2, g3, g4, g5⟩ := Ik.Lo.six HT5.out.lo
 have hgl := HT5.out.lo.lt
 rw [hv5] at g0 g1 g2 g3 g4 g5 hgl
 go_wp2_with fail
 rw [← hv5]
 clear hv5
 clear g0 g1 g2 g3 g4 g5 hgl
 refine (Je.add_any HT5.out.lo.ac (cost x.e : Int)).mono ?_
 rintro _ v6 ⟨rfl, ha, ho⟩
 have HT6 := Lib.hid (HT5.out.next (HT5.out.lo.setC (p' := col p5 6 v5.heap.size) (fun _ hj => col_lt hj) ha ho more_col) (Step.part (by decide) ho))
 have HB6 := Lib.hid (show Bt (fun _ => True) (cost x.e : Int) 1 (col p5 6 v5.heap.size) v6 g { s with l := rs } _ q _ from ⟨HT6.out.lo, HA1.out, HB5.out.r, HB5.out.m⟩)
 clear ha ho
 obtain ⟨p6, hp6⟩ : ∃ p6, p6 = col p5 6 v5.heap.size := ⟨_, rfl⟩
 rw [← hp6] at HT6 HB6
 clear hp6
 have HEV := Lib.hid (evict_any HB6.out HLE.out)
 simp only at HEV
 rw [← HKK.out] at HEV
 go_wp2_with fail
 refine HEV.out.mono ?_
 rintro _ v7 ⟨p7, c7, ns7, A7, n7, l7, rfl, hm7, D7, S7, B7⟩
 have HT7 := Lib.hid (HT6.out.next B7.lo S7)
 have HB7 := Lib.hid B7
 have HD7 := Lib.hid D7
 have HM7 := Lib.hid hm7
 clear hm7 D7 S7 B7 HEV
 have HKX := (HT7.out.get (b := C) (cs := emA x) (t := 42) (by simp)).1
 unfold emA at HKX
 obtain ⟨x0, x1, x2, x3, x4, x5, xf⟩ := six HKX
 have hxl := HKX.lt
 clear HKX xf
 go_wp2_with fail
 clear x0 x1 x2 x3 x4 x5 hxl
 refine (copied_any x v7 (fun v hb => HX.out v ((HT7.out.st.on0.mono HF.out.1).trans (Only.of_below hb (Nat.le_refl _) _)))).mono ?_
 rintro _ v8 ⟨y, hye, rfl, oy, b8⟩
 have HT8 := Lib.hid (HT7.out.next (HT7.out.lo.below b8 8) (Step.below b8 8))
 have HB8 := Lib.hid (show Bt (fun _ => True) (cost x.e : Int) 1 (col p7 8 v7.heap.size) v8 g _ ns7 q c7 from ⟨HT8.out.lo, HB7.out.rel, HB7.out.r, HB7.out.m⟩)
 have HD8 := Lib.hid (HD7.out.step (Step.below b8 8))
 have HY8 : Hid (RE (fun j => col p7 8 v7.heap.size j = 8 ∧ j < v8.heap.size) v8 y) := ⟨oy.f, (own_rs oy.v).1, (own_rs oy.t).1, fun a ha => ⟨col_ge (own_lt oy.v ha).1, (own_lt oy.v ha).2⟩, fun a ha => ⟨col_ge (own_lt oy.t ha).1, (own_lt oy.t ha).2⟩⟩
 have hz8 := b8.size
 have HYE := Lib.hid hye
 clear b8 oy hye
 obtain ⟨p8, hp8⟩ : ∃ p8, p8 = col p7 8 v7.heap.size := ⟨_, rfl⟩
 rw [← hp8] at HT8 HB8 HD8 HY8
 clear hp8
 have HHO : Hid (Calls Tryz.prog 70 #[.pointer (some ⟨g, 0, none⟩), emV y] v8 (holdPost (fun _ => True) p8 v8 g { s with l := rs.drop K ++ [x.e] })) := by
  have hq := HST.out
  unfold evQ at hq
  have hkl : K ≤ rs.length := by rw [HKK.out]; exact evN_le _ _ _ _
  have h1 := HB8.out
  rw [← HYE.out] at h1
  have h2 := hold_any h1 ⟨by rw [HYE.out]; exact HOK.out, by rw [HYE.out]; exact HFIT.out⟩ HY8.out (fun z hz => by rw [HYE.out]; exact HRN.out z (List.mem_of_mem_drop hz)) (by rw [HYE.out]; show (used (rs.drop K) : Int) + (cost x.e : Int) ≤ s.b; omega) (by show ((rs.drop K).length : Int) + 1 ≤ s.e; rw [List.length_drop]; omega) (fun _ => trivial)
  simp only at h2
  rw [HYE.out] at h2
  exact h2
 go_wp2_with fail
 refine HHO.out.mono ?_
 rintro _ v9 ⟨rfl, p9, q9, c9, ns9, S9, B9⟩
 have HD9 := Lib.hid (HD8.out.step S9)
 have HS9 := Lib.hid (HT8.out.st.trans S9)
 have HB9 := Lib.hid B9
 clear S9 B9
 go_wp2_with fail
 go_ret2
 obtain ⟨e1, e2, e3⟩ := HE.out
 unfold putH
 rw [e1, e2, e3]
 have hzz : w.heap.size ≤ v6.heap.size := HT6.out.st.on.size
 refine ⟨_, _, A7, n7, l7, rfl, HM7.out, ?_, gavg HF.out HS9.out HB9.out⟩
 exact Evd.hd (Evd.back HD9.out hzz)
theorem put_anyG (h : Sg Kd F w g s) {x : Em} {G : Nat → Prop} (hx : ∀ v, Only F w v → RE G v x) : Calls Tryz.prog 22 #[.pointer (some ⟨g, 0, none⟩), emV x] w (putH Kd F w g (putT s x.e) (putG s x.e) (putN s x.e)) := by
 rcases putE_cases s.b x.e with ⟨e, hk⟩ | ⟨e, hk, ht⟩ | ⟨e, hk, ht, hv⟩ | ⟨e, hk, ht, hv, hb⟩ | ⟨e, hk, ht, hv, hb⟩
 ·exact put_bad h hx e (Jc.cost_bad (fun hh => hk hh.1)).2 (by decide)
 ·exact put_bad h hx e (Jc.cost_bad (fun hh => ht hh.2)).2 (by decide)
 ·exact put_bad h hx e (Jc.cost_long (⟨hk, ht⟩ : Jc.keyOk x.e.k ∧ Jc.okT x.e.t) hv).2 (by decide)
 ·exact put_big h hx e ⟨hk, hv, ht⟩ hb
 ·obtain ⟨p, ns, q, c, hB, hF⟩ := h.has
  rcases hB.rel.look x.e.k with ⟨h1, _, _⟩ | ⟨_, h2, _, h4⟩ | ⟨i, hi, h1, _, _, _, h5, _⟩
  ·exact absurd hk h1
  ·exact put_new hB hF hx e ⟨hk, hv, ht⟩ hb h2 h4
  ·exact put_old hB hF hx e ⟨hk, hv, ht⟩ hb hi h1 h5
theorem put_any (h : St F w g s) {x : Em} {G : Nat → Prop} (hx : ∀ v, Only F w v → RE G v x) : Calls Tryz.prog 22 #[.pointer (some ⟨g, 0, none⟩), emV x] w (putPost F w g (putT s x.e) (putG s x.e) (putN s x.e)) :=
 (put_anyG h.sg hx).mono fun _ _ ⟨F', P, A, c, l, e, h1, h2, h3⟩ => ⟨F', P, A, c, l, e, h1, h2, h3.v⟩
end
end Go.Proofs.YtlmljhnogmfcfaaGreat.Ep
