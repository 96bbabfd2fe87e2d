/- Proves what the specification's Read returns: the response of a frame, or none. Conditions: few bytes. -/
import Derived.Test.YthlfahblnpijaaaSp
import Derived.Test.YthlfahblnpijaaaSo
import Derived.Test.YthlfahblnpijaaaSv
namespace Go.Proofs.Ythlfahblnpijaaa.Sr
open Go.RowKit Vm Ap Vw Va Gc Mi Mb Qm Sm Se So St Su Sn Sp

def rrPost (w : World) (R : Option Rsp) : Ending → World → Prop := fun e w' =>
  ∃ x, e = .returned (.tuple #[resV x, .bool R.isSome]) ∧ GotS w.heap.size w' x ∧ (∀ c, R = some c → x.r = c) ∧ (R = none → x = startS 0 0) ∧ Below w.heap.size w w'
theorem rr_none {w w' : World} {R : Option Rsp} (h : R = none) {v : Value} (hv : v = .tuple #[.agg #[.int .i64 0, .int .i64 0, .slice none 0 0, .int .u64 0, .int .i64 0, .slice none 0 0], .bool false]) (hb : Below w.heap.size w w') : rrPost w R (.returned v) w' := by
  subst h; subst hv
  exact ⟨startS 0 0, rfl, gotS_zero _ _, (fun c e => by cases e), fun _ => rfl, hb⟩
theorem boxI_set {w : World} {D : Nat} {m : Int} {s : Bs} {n1 n2 : Nat} {A : Option Addr} {k : Nat} (h : BoxI w D ⟨⟨m, s, n1, n2⟩, A, k⟩) :
    (∀ m' : Int, BoxI (w.setCell ⟨D, 0, none⟩ (.int .i64 m')) D ⟨⟨m', s, n1, n2⟩, A, k⟩) ∧ (∀ (A' : Option Addr) (s' : Bs) (k' : Nat), BoxI (w.setCell ⟨D, 1, none⟩ (.slice A' s'.length k')) D ⟨⟨m, s', n1, n2⟩, A', k'⟩) ∧
    (∀ n : Nat, BoxI (w.setCell ⟨D, 2, none⟩ (.int .u64 (n : Int))) D ⟨⟨m, s, n, n2⟩, A, k⟩) ∧ (∀ n : Nat, BoxI (w.setCell ⟨D, 3, none⟩ (.int .u64 (n : Int))) D ⟨⟨m, s, n1, n⟩, A, k⟩) := by
  obtain ⟨h0, h1, h2, h3, hu⟩ := h
  refine ⟨fun m' => ⟨?_, ?_, ?_, ?_, fun j => ?_⟩, fun A' s' k' => ⟨?_, ?_, ?_, ?_, fun j => ?_⟩, fun n => ⟨?_, ?_, ?_, ?_, fun j => ?_⟩, fun n => ⟨?_, ?_, ?_, ?_, fun j => ?_⟩⟩
  all_goals simp [go_sem, h0, h1, h2, h3, hu]
theorem boxS_set {w : World} {g : Nat} {x : Res} (h : BoxS w g x) :
    (∀ e : Int, BoxS (w.setCell ⟨g, 1, none⟩ (.int .i64 e)) g { x with err := e }) ∧ (∀ (IA : Option Addr) (ys : List Im) (ik n : Nat), ys.length = n → BoxS (w.setCell ⟨g, 2, none⟩ (.slice IA n ik)) g { x with items := ys, IA := IA, ik := ik }) ∧
    (∀ n : Nat, BoxS (w.setCell ⟨g, 3, none⟩ (.int .u64 (n : Int))) g { x with version := n }) ∧ (∀ n : Int, BoxS (w.setCell ⟨g, 4, none⟩ (.int .i64 n)) g { x with count := n }) ∧ (∀ (NA : Option Addr) (ns : List Nat) (nk n : Nat), ns.length = n → BoxS (w.setCell ⟨g, 5, none⟩ (.slice NA n nk)) g { x with numbers := ns, NA := NA, nk := nk }) := by
  obtain ⟨h0, h1, h2, h3, h4, h5, hu⟩ := h
  refine ⟨fun e => ⟨?_, ?_, ?_, ?_, ?_, ?_, fun j => ?_⟩, fun IA ys ik n hn => ⟨?_, ?_, ?_, ?_, ?_, ?_, fun j => ?_⟩, fun n => ⟨?_, ?_, ?_, ?_, ?_, ?_, fun j => ?_⟩, fun n => ⟨?_, ?_, ?_, ?_, ?_, ?_, fun j => ?_⟩, fun NA ns nk n hn => ⟨?_, ?_, ?_, ?_, ?_, ?_, fun j => ?_⟩⟩
  all_goals simp [go_sem, h0, h1, h2, h3, h4, h5, hu]
  all_goals subst hn; rfl
theorem only_set {F : Nat → Prop} {a w : World} (h : Only F a w) {g : Nat} (hg : F g) (j : Nat) (u : Value) : Only F a (w.setCell ⟨g, j, none⟩ u) := h.put (ad := ⟨g, j, none⟩) hg u
theorem only_new {F : Nat → Prop} {a w : World} (h : Only F a w) {g : Nat} (hg : a.heap.size ≤ g) (j : Nat) (u : Value) : Only F a (w.setCell ⟨g, j, none⟩ u) := h.setCell (ad := ⟨g, j, none⟩) (Or.inr hg) u
theorem one_put (w : World) (g j : Nat) (u : Value) : Only (fun q => q = g) w (w.setCell ⟨g, j, none⟩ u) := (Only.refl (fun q => q = g) w).put (ad := ⟨g, j, none⟩) rfl u
theorem bnd_got {o n : Nat} (ho : o ≤ 15) (hn : n ≤ 100000) {c : Int} (hc1 : 0 ≤ c) (hc2 : c ≤ 1099511627776) {v : Nat} (hv : v < big) {ys : List Im} {ns : List Nat} (hy : ys.length ≤ 16) (hns : ns.length ≤ 64)
    (h1 : ∀ y ∈ ys, (0 ≤ y.i.mark ∧ y.i.mark ≤ 2) ∧ y.i.value.length ≤ 1000000 ∧ y.i.version < big ∧ y.i.dead < big) (h2 : ∀ n ∈ ns, n < big) (IA NA : Option Addr) (ik nk : Nat) : BndS { op := (o : Int), err := (n : Int), items := ys, IA := IA, ik := ik, version := v, count := c, numbers := ns, NA := NA, nk := nk } := by
  unfold big at *
  exact ⟨by show -9223372036854775808 ≤ (o : Int); omega, by show (o : Int) ≤ 9223372036854775807; omega, by show -9223372036854775808 ≤ (n : Int); omega, by show (n : Int) ≤ 9223372036854775807; omega, by show -9223372036854775808 ≤ c; omega, by show c ≤ 9223372036854775807; omega, by show v < 18446744073709551616; omega, by show ys.length ≤ 1000; omega, by show ns.length ≤ 1000; omega, fun y hy => ⟨⟨by have := (h1 y hy).1; omega, by have := (h1 y hy).1; omega⟩, (h1 y hy).2.1, (h1 y hy).2.2.1, (h1 y hy).2.2.2⟩, fun n hn => h2 n hn⟩
set_option maxRecDepth 100000 in
set_option maxHeartbeats 16000000 in
theorem rrd_any (fc : UInt8) (A : Option Addr) (p : Bs) (d : Nat) (w : World) (hA : Arg w A p d) (hp : p.length ≤ 1000000) :
    Calls Try.prog 20 #[.agg #[.int .u8 (fc.toNat : Int), .slice A p.length d]] w (rrPost w (readF fc.toNat p)) := by
  obtain ⟨C, hC⟩ : ∃ C, C = w.heap.size := ⟨_, rfl⟩
  obtain ⟨f, hf⟩ : ∃ f : Nat, f = fc.toNat := ⟨_, rfl⟩
  have fcl := fc.toNat_lt
  have hfb : f < 256 := by omega
  rw [← hf]
  clear hf fcl
  obtain ⟨w0, hw0⟩ : ∃ w0, w0 = (w.alloc (.cells #[.int .u8 (f : Int), .slice A p.length d] 38)).alloc (resO (startS 0 0)) := ⟨_, rfl⟩
  have HB0 : Hid (Below C w w0) := by show Below _ _ _; rw [hw0, hC]; exact two_below w _ _
  have HF : Hid (Cel w0 C (.int .u8 (f : Int)) (.slice A p.length d)) := by show Cel _ _ _ _; rw [hw0, hC]; exact (Cel.new w _ _ _).below (alloc_below _ _) (Nat.le_refl _)
  have HZ : Hid (BoxS w0 (C + 1) (startS 0 0)) := by
    have hb := BoxS.new (w.alloc (.cells #[.int .u8 (f : Int), .slice A p.length d] 38)) (startS 0 0)
    have e : (w.alloc (.cells #[.int .u8 (f : Int), .slice A p.length d] 38)).heap.size = w.heap.size + 1 := by simp
    rw [e] at hb
    show BoxS _ _ _
    rw [hw0, hC]; exact hb
  have HS0 : Hid (w0.heap.size = C + 2) := by show _ = _; rw [hw0, hC]; simp
  have HC := Lib.hid hC
  have HAW : Hid (∀ W, Below C w W → Arg W A p d) := fun W h => arg_below (B := C) hA h (by omega)
  have e0 : resO (startS 0 0) = .cells #[.int .i64 0, .int .i64 0, .slice none 0 0, .int .u64 0, .int .i64 0, .slice none 0 0] 28 := rfl
  rw [e0] at hw0
  have HRF : Hid (readF f p = if 64 ≤ f ∧ f ≤ 79 then readS ((f : Int) - 64) p else none) := rfl
  generalize readF f p = R at *
  clear e0 hA
  by_cases h1 : f < 64
  · have HN : Hid (R = none) := by show _ = _; rw [HRF.out, if_neg (by omega)]
    have e1 : decide ((f : Int) < 64) = true := decide_eq_true (by omega)
    go_enter Try.func20, Try.ntmps20
    go_upto_region 1 with fail
    rw [← hw0, ← hC]
    clear hw0 hC
    obtain ⟨cf0, cf1, _, _⟩ := HF.out
    obtain ⟨z0, z1, z2, z3, z4, z5, zun⟩ := HZ.out
    have zu0 := zun 0; have zu1 := zun 1; have zu2 := zun 2; have zu3 := zun 3; have zu4 := zun 4; have zu5 := zun 5
    have HBq := Lib.hid (HB0.out)
    clear zun
    go_wp2_with fail
    have HFz := put6 w0 (C + 1) (.int .i64 0) (.int .i64 0) (.slice none 0 0) (.int .u64 0) (.int .i64 0) (.slice none 0 0)
    have HBf := HBq.out.trans (HFz.below (B := C) (fun j e => by omega) (by have h1 := HBq.out.size; have h2 := HC.out; omega))
    replace HBf := HBf.mono (show w.heap.size ≤ C by have h2 := HC.out; omega)
    exact bodyPost_ret (v := .tuple #[.agg #[.int .i64 0, .int .i64 0, .slice none 0 0, .int .u64 0, .int .i64 0, .slice none 0 0], .bool false]) (by simp [results, Try.results20, go_sem, z0, z1, z2, z3, z4, z5]) rfl (rr_none HN.out rfl HBf)
  have e1 : decide ((f : Int) < 64) = false := decide_eq_false (by omega)
  by_cases h2 : 79 < f
  · have HN : Hid (R = none) := by show _ = _; rw [HRF.out, if_neg (by omega)]
    have e2 : decide ((79 : Int) < f) = true := decide_eq_true (by omega)
    go_enter Try.func20, Try.ntmps20
    go_upto_region 1 with fail
    rw [← hw0, ← hC]
    clear hw0 hC
    obtain ⟨cf0, cf1, _, _⟩ := HF.out
    obtain ⟨z0, z1, z2, z3, z4, z5, zun⟩ := HZ.out
    have zu0 := zun 0; have zu1 := zun 1; have zu2 := zun 2; have zu3 := zun 3; have zu4 := zun 4; have zu5 := zun 5
    have HBq := Lib.hid (HB0.out)
    clear zun
    go_wp2_with fail
    have HFz := put6 w0 (C + 1) (.int .i64 0) (.int .i64 0) (.slice none 0 0) (.int .u64 0) (.int .i64 0) (.slice none 0 0)
    have HBf := HBq.out.trans (HFz.below (B := C) (fun j e => by omega) (by have h1 := HBq.out.size; have h2 := HC.out; omega))
    replace HBf := HBf.mono (show w.heap.size ≤ C by have h2 := HC.out; omega)
    exact bodyPost_ret (v := .tuple #[.agg #[.int .i64 0, .int .i64 0, .slice none 0 0, .int .u64 0, .int .i64 0, .slice none 0 0], .bool false]) (by simp [results, Try.results20, go_sem, z0, z1, z2, z3, z4, z5]) rfl (rr_none HN.out rfl HBf)
  have e2 : decide ((79 : Int) < f) = false := decide_eq_false (by omega)
  have HRR : Hid (R = readS ((f : Int) - 64) p) := by show _ = _; rw [HRF.out, if_pos (by omega)]
  obtain ⟨op, hop⟩ : ∃ op : Nat, op + 64 = f := ⟨f - 64, by omega⟩
  subst hop
  have ho15 : op ≤ 15 := by omega
  have ea : ((op + 64 : Nat) : Int) - 64 = (op : Int) := by omega
  rw [ea] at HRR
  have eb : ((op + 64 : Nat) : Int) = (op : Int) + 64 := by omega
  rw [eb] at hw0 HF e1 e2 ⊢
  clear ea eb h1 h2 HRF hfb
  go_enter Try.func20, Try.ntmps20
  go_upto_region 1 with fail
  rw [← hw0, ← hC]
  clear hw0 hC
  obtain ⟨cf0, cf1, _, _⟩ := HF.out
  obtain ⟨G, hG⟩ : ∃ G, G = w0.heap.size := ⟨_, rfl⟩
  obtain ⟨w1, hw1⟩ : ∃ w1, w1 = w0.alloc (resO (startS (op : Int) 0)) := ⟨_, rfl⟩
  have B1 : Below w0.heap.size w0 w1 := by rw [hw1]; exact alloc_below _ _
  have HG1 : Hid (BoxS w1 G (startS (op : Int) 0)) := by show BoxS _ _ _; rw [hw1, hG]; exact BoxS.new _ _
  have HZ1 := Lib.hid (HZ.out.below B1 (Nat.le_refl _))
  have HF1 := Lib.hid (HF.out.below B1 (Nat.le_refl _))
  have HGC : Hid (G = C + 2) := by show _ = _; rw [hG, HS0.out]
  have HS1 : Hid (w1.heap.size = C + 3) := by show _ = _; rw [hw1]; simp; rw [HS0.out]
  have HB1 : Hid (Below C w w1) := HB0.out.trans (B1.mono (by rw [HS0.out]; omega))
  have e0 : resO (startS (op : Int) 0) = .cells #[.int .i64 (op : Int), .int .i64 0, .slice none 0 0, .int .u64 0, .int .i64 0, .slice none 0 0] 28 := rfl
  rw [e0] at hw1
  go_upto_region 4 with fail
  rw [← hw1, ← hG]
  clear hw1 hG e0 B1 cf0 cf1 HB0 HF HZ
  obtain ⟨_, cf1, _, _⟩ := HF1.out
  go_wp2_with fail
  refine (rnumber_any A p d false _ (HAW.out _ HB1.out) (by omega)).mono ?_
  rintro e w2 ⟨n, A2, l, c2, b, rfl, b2, ha2, HNX, hnb, hll⟩
  obtain ⟨X, hX⟩ : ∃ X, X = w2.heap.size := ⟨_, rfl⟩
  obtain ⟨w3, hw3⟩ : ∃ w3, w3 = w2.alloc (.cells #[.slice A2 l.length c2, .bool b] 74) := ⟨_, rfl⟩
  have b3 : Below w2.heap.size w2 w3 := by rw [hw3]; exact alloc_below _ _
  have b23 : Below w1.heap.size w1 w3 := b2.trans (b3.mono b2.size)
  have HX3 : Hid (Cel w3 X (.slice A2 l.length c2) (.bool b)) := by show Cel _ _ _ _; rw [hw3, hX]; exact Cel.new _ _ _ _
  have HG3 := Lib.hid (HG1.out.below b23 (Nat.le_refl _))
  have HZ3 := Lib.hid (HZ1.out.below b23 (Nat.le_refl _))
  have HXG : Hid (C + 3 ≤ X ∧ X < w3.heap.size) := by show _ ∧ _; rw [hw3, hX]; exact ⟨by have := b2.size; have := HS1.out; omega, by simp⟩
  have HB3 : Hid (Below C w w3) := HB1.out.trans (b23.mono (by rw [HS1.out]; omega))
  have HA3 := Lib.hid (fun W h => ha2 W (HAW.out W h))
  clear b2 b3 b23 ha2 cf1 HG1 HZ1 HF1 HAW HB1
  by_cases hn : 100000 < n
  · have HN : Hid (R = none) := by show _ = _; rw [HRR.out]; exact first_big HNX.out hn
    have e3 : decide ((100000 : Int) < n) = true := decide_eq_true (by omega)
    go_upto_region 5 with fail
    rw [← hw3]
    clear hw3
    obtain ⟨z0, z1, z2, z3, z4, z5, zun⟩ := HZ3.out
    have zu0 := zun 0; have zu1 := zun 1; have zu2 := zun 2; have zu3 := zun 3; have zu4 := zun 4; have zu5 := zun 5
    have HBq := Lib.hid (HB3.out)
    clear zun
    go_wp2_with fail
    have HFz := put6 w3 (C + 1) (.int .i64 0) (.int .i64 0) (.slice none 0 0) (.int .u64 0) (.int .i64 0) (.slice none 0 0)
    have HBf := HBq.out.trans (HFz.below (B := C) (fun j e => by omega) (by have h1 := HBq.out.size; have h2 := HC.out; omega))
    replace HBf := HBf.mono (show w.heap.size ≤ C by have h2 := HC.out; omega)
    exact bodyPost_ret (v := .tuple #[.agg #[.int .i64 0, .int .i64 0, .slice none 0 0, .int .u64 0, .int .i64 0, .slice none 0 0], .bool false]) (by simp [results, Try.results20, go_sem, z0, z1, z2, z3, z4, z5]) rfl (rr_none HN.out rfl HBf)
  have e3 : decide ((100000 : Int) < n) = false := decide_eq_false (by omega)
  have hn100 : n ≤ 100000 := by omega
  go_upto_region 5 with fail
  rw [← hw3, ← hX]
  clear hw3 hX hn
  have hgx : C + 2 = G := HGC.out.symm
  have hXG := HXG.out
  have HXnG : Hid (X ≠ G ∧ X ≠ C + 1 ∧ G ≠ C + 1) := by show _ ∧ _ ∧ _; omega
  obtain ⟨g0, g1, g2, g3, g4, g5, gun⟩ := HG3.out
  have gu1 := gun 1
  clear gun hgx hXG
  by_cases hn0 : n = 0
  rotate_left
  · have e4 : ((n : Int) == 0) = false := by rw [beq_eq_false_iff_ne]; omega
    have HRD : Hid (R = if b then none else finS ((startS (op : Int) (n : Int)).r, l)) := by show _ = _; rw [HRR.out]; exact first_err HNX.out hn100 hn0
    clear HRR HNX hn0
    go_upto_region 8 with fail
    obtain ⟨w4, hw4⟩ : ∃ w4, w4 = w3.setCell ⟨G, 1, none⟩ (.int .i64 (n : Int)) := ⟨_, rfl⟩
    have O4 : Hid (Only (fun j => j = G) w3 w4) := by show Only _ _ _; rw [hw4]; exact one_put _ _ _ _
    have HG4 : Hid (BoxS w4 G (startS (op : Int) (n : Int))) := by show BoxS _ _ _; rw [hw4]; exact (boxS_set HG3.out).1 (n : Int)
    have HX4 := Lib.hid (cel_only HX3.out O4.out HXnG.out.1)
    have HZ4 := Lib.hid (HZ3.out.only O4.out (fun e => HXnG.out.2.2 e.symm))
    have HB4 : Hid (Below C w w4) := HB3.out.trans (O4.out.below (B := C) (fun j e => by have := HGC.out; omega) (by have := HXG.out; omega))
    have HGT : Hid (GotS (C + 2) w4 (startS (op : Int) (n : Int))) := ⟨RRc.start _ _ _, bnd_bareS _ _ (by omega) (by omega) (by omega) (by omega), (fun a e => by cases e), (fun a e => by cases e), (fun y hy => by cases hy)⟩
    rw [← hw4]
    clear hw4 g0 g1 g2 g3 g4 g5 gu1
    obtain ⟨x0, x1, _, _⟩ := HX4.out
    cases b
    rotate_left
    · have HN : Hid (R = none) := by show _ = _; rw [HRD.out]; rfl
      obtain ⟨z0, z1, z2, z3, z4, z5, zun⟩ := HZ4.out
      have zu0 := zun 0; have zu1 := zun 1; have zu2 := zun 2; have zu3 := zun 3; have zu4 := zun 4; have zu5 := zun 5
      have HBq := Lib.hid (HB4.out)
      clear zun
      go_wp2_with fail
      have HFz := put6 w4 (C + 1) (.int .i64 0) (.int .i64 0) (.slice none 0 0) (.int .u64 0) (.int .i64 0) (.slice none 0 0)
      have HBf := HBq.out.trans (HFz.below (B := C) (fun j e => by omega) (by have h1 := HBq.out.size; have h2 := HC.out; omega))
      replace HBf := HBf.mono (show w.heap.size ≤ C by have h2 := HC.out; omega)
      exact bodyPost_ret (v := .tuple #[.agg #[.int .i64 0, .int .i64 0, .slice none 0 0, .int .u64 0, .int .i64 0, .slice none 0 0], .bool false]) (by simp [results, Try.results20, go_sem, z0, z1, z2, z3, z4, z5]) rfl (rr_none HN.out rfl HBf)
    by_cases hl0 : 0 < l.length
    · have HN : Hid (R = none) := by
        show _ = _; rw [HRD.out]; unfold finS; rw [if_neg (by simp), if_neg (fun h => by have := h.1; simp only at this; rw [this] at hl0; simp at hl0)]
      have hl1 : (0 : Int) < l.length := by omega
      have hln : l ≠ [] := fun e => by rw [e] at hl0; simp at hl0
      clear hl0
      obtain ⟨z0, z1, z2, z3, z4, z5, zun⟩ := HZ4.out
      have zu0 := zun 0; have zu1 := zun 1; have zu2 := zun 2; have zu3 := zun 3; have zu4 := zun 4; have zu5 := zun 5
      have HBq := Lib.hid (HB4.out)
      clear zun
      go_wp2_with fail
      have HFz := put6 w4 (C + 1) (.int .i64 0) (.int .i64 0) (.slice none 0 0) (.int .u64 0) (.int .i64 0) (.slice none 0 0)
      have HBf := HBq.out.trans (HFz.below (B := C) (fun j e => by omega) (by have h1 := HBq.out.size; have h2 := HC.out; omega))
      replace HBf := HBf.mono (show w.heap.size ≤ C by have h2 := HC.out; omega)
      exact bodyPost_ret (v := .tuple #[.agg #[.int .i64 0, .int .i64 0, .slice none 0 0, .int .u64 0, .int .i64 0, .slice none 0 0], .bool false]) (by simp [results, Try.results20, go_sem, z0, z1, z2, z3, z4, z5]) rfl (rr_none HN.out rfl HBf)
    have hl1 : ¬ (0 : Int) < l.length := by omega
    have hle : l = [] := List.eq_nil_of_length_eq_zero (by omega)
    have HRD2 : Hid (R = if validS (startS (op : Int) (n : Int)).r = true then some (startS (op : Int) (n : Int)).r else none) := by
      show _ = _; rw [HRD.out, hle]; unfold finS; simp
    clear HRD
    clear hl0 hl1
    subst hle
    simp only [List.length_nil] at x0
    have HV := Lib.hid (Sv.rvalid_any (startS (op : Int) (n : Int)) w4 HGT.out.rc HGT.out.bnd)
    generalize validS (startS (op : Int) (n : Int)).r = vb at *
    unfold resV at HV
    obtain ⟨y0, y1, y2, y3, y4, y5, _⟩ := HG4.out
    try simp only [startS, List.length_nil, Int.natCast_zero] at HV y0 y1 y2 y3 y4 y5
    go_wp2_with fail
    with_reducible refine HV.out.mono ?_
    rintro e wv ⟨rfl, bv⟩
    have BOv := Lib.hid (HG4.out.below bv (Nat.le_refl _))
    have GOv := Lib.hid (HGT.out.below bv (Nat.le_refl _))
    have BZv := Lib.hid ((HZ4.out).below bv (Nat.le_refl _))
    have HBv : Hid (Below C w wv) := (HB4.out).trans (bv.mono (by have := (HB4.out).size; have := HC.out; omega))
    clear bv y0 y1 y2 y3 y4 y5 x0 x1
    cases vb
    · have HN : Hid (R = none) := by show _ = _; rw [HRD2.out]; rfl
      obtain ⟨z0, z1, z2, z3, z4, z5, zun⟩ := BZv.out
      have zu0 := zun 0; have zu1 := zun 1; have zu2 := zun 2; have zu3 := zun 3; have zu4 := zun 4; have zu5 := zun 5
      have HBq := Lib.hid (HBv.out)
      clear zun
      go_wp2_with fail
      have HFz := put6 wv (C + 1) (.int .i64 0) (.int .i64 0) (.slice none 0 0) (.int .u64 0) (.int .i64 0) (.slice none 0 0)
      have HBf := HBq.out.trans (HFz.below (B := C) (fun j e => by omega) (by have h1 := HBq.out.size; have h2 := HC.out; omega))
      replace HBf := HBf.mono (show w.heap.size ≤ C by have h2 := HC.out; omega)
      exact bodyPost_ret (v := .tuple #[.agg #[.int .i64 0, .int .i64 0, .slice none 0 0, .int .u64 0, .int .i64 0, .slice none 0 0], .bool false]) (by simp [results, Try.results20, go_sem, z0, z1, z2, z3, z4, z5]) rfl (rr_none HN.out rfl HBf)
    obtain ⟨y0, y1, y2, y3, y4, y5, _⟩ := BOv.out
    obtain ⟨z0, z1, z2, z3, z4, z5, zun⟩ := BZv.out
    have zu0 := zun 0; have zu1 := zun 1; have zu2 := zun 2; have zu3 := zun 3; have zu4 := zun 4; have zu5 := zun 5
    clear zun
    have HSM : Hid (R = some (startS (op : Int) (n : Int)).r) := by show _ = _; rw [HRD2.out]; rfl
    have HGE : Hid (∃ q : Res, q = startS (op : Int) (n : Int)) := ⟨_, rfl⟩
    obtain ⟨q, hq⟩ := HGE.out
    have f0 : q.op = (startS (op : Int) (n : Int)).op := by rw [hq]
    rw [← hq] at GOv HSM
    have w0c : wv.cell? ⟨G, 0, none⟩ = some (.int .i64 q.op) := by rw [hq]; exact y0
    have w1c : wv.cell? ⟨G, 1, none⟩ = some (.int .i64 q.err) := by rw [hq]; exact y1
    have w2c : wv.cell? ⟨G, 2, none⟩ = some (.slice q.IA q.items.length q.ik) := by rw [hq]; exact y2
    have w3c : wv.cell? ⟨G, 3, none⟩ = some (.int .u64 (q.version : Int)) := by rw [hq]; exact y3
    have w4c : wv.cell? ⟨G, 4, none⟩ = some (.int .i64 q.count) := by rw [hq]; exact y4
    have w5c : wv.cell? ⟨G, 5, none⟩ = some (.slice q.NA q.numbers.length q.nk) := by rw [hq]; exact y5
    clear y0 y1 y2 y3 y4 y5 hq f0 HGE BOv BZv
    go_wp2_with fail
    have HFz := put6 wv (C + 1) (.int .i64 q.op) (.int .i64 q.err) (.slice q.IA q.items.length q.ik) (.int .u64 (q.version : Int)) (.int .i64 q.count) (.slice q.NA q.numbers.length q.nk)
    have HGF := GOv.out.only HFz (fun j hj _ e => by omega)
    have HBf := HBv.out.trans (HFz.below (B := C) (fun j e => by omega) (by have h1 := HBv.out.size; have h2 := HC.out; omega))
    replace HBf := HBf.mono (show w.heap.size ≤ C by have h2 := HC.out; omega)
    exact bodyPost_ret (v := .tuple #[resV q, .bool true]) (by unfold resV; simp [results, Try.results20, go_sem, z0, z1, z2, z3, z4, z5]) rfl ⟨q, by rw [HSM.out]; rfl, HGF.mono (by have h2 := HC.out; omega), (fun c e => by rw [HSM.out] at e; injection e), (fun e => by rw [HSM.out] at e; cases e), HBf⟩
  subst hn0
  have HRB : Hid (R = (if b then none else rdBody (op : Int) l).bind finS) := by show _ = _; rw [HRR.out]; exact first_ok HNX.out
  clear HRR HNX e3 hn100 hnb
  go_upto_region 8 with fail
  obtain ⟨w4, hw4⟩ : ∃ w4, w4 = w3.setCell ⟨G, 1, none⟩ (.int .i64 0) := ⟨_, rfl⟩
  have O4 : Hid (Only (fun j => j = G) w3 w4) := by show Only _ _ _; rw [hw4]; exact one_put _ _ _ _
  have HG4 : Hid (BoxS w4 G (startS (op : Int) 0)) := by show BoxS _ _ _; rw [hw4]; exact (boxS_set HG3.out).1 0
  have HX4 := Lib.hid (cel_only HX3.out O4.out HXnG.out.1)
  have HZ4 := Lib.hid (HZ3.out.only O4.out (fun e => HXnG.out.2.2 e.symm))
  have HB4 : Hid (Below C w w4) := HB3.out.trans (O4.out.below (B := C) (fun j e => by have := HGC.out; omega) (by have := HXG.out; omega))
  rw [← hw4]
  clear hw4 g0 g1 g2 g3 g4 g5 gu1 O4 HX3 HG3 HZ3 HB3
  have HS4 : Hid (X < w4.heap.size) := HX4.out.lt
  obtain ⟨g0, _, _, _, _, _, _⟩ := HG4.out
  have g0' : w4.cell? ⟨G, 0, none⟩ = some (.int .i64 (op : Int)) := g0
  clear g0
  rcases need_cases (op : Int) with q | q | q | q | q
  case inl =>
    have HNE := Lib.hid (fun W => need_at 119 q rfl W)
    obtain ⟨x0, x1, _, _⟩ := HX4.out
    go_wp2_with fail
    refine (HNE.out _).mono ?_
    rintro e wx ⟨rfl, rfl⟩
    clear g0' HNE
    go_wp2_with fail
    refine (rnumber_any A2 l c2 b _ (HA3.out _ HB4.out) (by omega)).mono ?_
    rintro e wni ⟨vi, Ai, li, ci, bi, rfl, bn, ha, HNXi, hvi, hli⟩
    have HARGi : Hid (∀ W, Below C w W → Arg W Ai li ci) := fun W h => ha W (HA3.out W h)
    have hlpi : li.length ≤ p.length := by omega
    have BGn := Lib.hid (HG4.out.below bn (Nat.le_refl _))
    have BXn := Lib.hid (HX4.out.below bn (Nat.le_refl _))
    have BZn := Lib.hid (HZ4.out.below bn (Nat.le_refl _))
    have BBn : Hid (Below C w wni) := HB4.out.trans (bn.mono (by have := HB4.out.size; have := HC.out; omega))
    have hszn : w4.heap.size ≤ wni.heap.size := bn.size
    clear x0 x1
    obtain ⟨x0, x1, xf0, xf1⟩ := BXn.out
    obtain ⟨g0, g1, g2, g3, g4, g5, gun⟩ := BGn.out
    have gu2 := gun 2; have gu3 := gun 3; have gu4 := gun 4; have gu5 := gun 5
    clear bn ha gun
    go_upto_region 13 with fail
    obtain ⟨wi, hwi⟩ : ∃ q, q = (((wni).setCell ⟨G, 3, none⟩ (.int .u64 (vi : Int))).setCell ⟨X, 0, none⟩ (.slice Ai li.length ci)).setCell ⟨X, 1, none⟩ (.bool bi) := ⟨_, rfl⟩
    have ONi : Hid (Only (fun j => j = G ∨ j = X) wni wi) := by show Only _ _ _; rw [hwi]; exact (((Only.refl (fun j => j = G ∨ j = X) wni).put (ad := ⟨G, 3, none⟩) (Or.inl rfl) (.int .u64 (vi : Int))).put (ad := ⟨X, 0, none⟩) (Or.inr rfl) (.slice Ai li.length ci)).put (ad := ⟨X, 1, none⟩) (Or.inr rfl) (.bool bi)
    have HGi : Hid (BoxS wi G (({ op := (op : Int), err := 0, items := [], IA := none, ik := 0, version := vi, count := 0, numbers := [], NA := none, nk := 0 } : Res))) := by show BoxS _ _ _; rw [hwi]; exact ((boxS_set (BGn.out)).2.2.1 vi).only (set2 _ X _ _) (fun e => HXnG.out.1 e.symm)
    have HXi : Hid (Cel wi X (.slice Ai li.length ci) (.bool bi)) := by show Cel _ _ _ _; rw [hwi]; exact Cel.set (cel_only (BXn.out) (one_put _ G 3 _) HXnG.out.1) _ _
    have HZi : Hid (BoxS wi (C + 1) (startS 0 0)) := by show BoxS _ _ _; rw [hwi]; exact ((BZn.out).only (one_put _ G 3 _) (fun e => HXnG.out.2.2 e.symm)).only (set2 _ X _ _) (fun e => HXnG.out.2.1 e.symm)
    have HBi : Hid (Below C w wi) := BBn.out.trans (ONi.out.below (B := C) (fun j e => by have := HGC.out; have := HXG.out; omega) (by have := BBn.out.size; have := HC.out; omega))
    have hszi : w4.heap.size ≤ wi.heap.size := Nat.le_trans hszn ONi.out.size
    rw [← hwi]
    clear hwi x0 x1 xf0 xf1 g0 g1 g2 g3 g4 g5 gu2 gu3 gu4 gu5 BGn BXn BZn BBn hszn HG4 HX4 HZ4 HB4 
    obtain ⟨x0, x1, _, _⟩ := HXi.out
    go_wp2_with fail
    refine (rnumber_any Ai li ci bi _ (HARGi.out _ HBi.out) (by omega)).mono ?_
    rintro e wnj ⟨vj, Aj, lj, cj, bj, rfl, bn, ha, HNXj, hvj, hlj⟩
    have HARGj : Hid (∀ W, Below C w W → Arg W Aj lj cj) := fun W h => ha W (HARGi.out W h)
    have hlpj : lj.length ≤ p.length := by omega
    have BGn := Lib.hid (HGi.out.below bn (Nat.le_refl _))
    have BXn := Lib.hid (HXi.out.below bn (Nat.le_refl _))
    have BZn := Lib.hid (HZi.out.below bn (Nat.le_refl _))
    have BBn : Hid (Below C w wnj) := HBi.out.trans (bn.mono (by have := HBi.out.size; have := HC.out; omega))
    have hszn : wi.heap.size ≤ wnj.heap.size := bn.size
    clear x0 x1
    obtain ⟨x0, x1, xf0, xf1⟩ := BXn.out
    obtain ⟨g0, g1, g2, g3, g4, g5, gun⟩ := BGn.out
    have gu2 := gun 2; have gu3 := gun 3; have gu4 := gun 4; have gu5 := gun 5
    clear bn ha gun
    go_upto_region 22 with fail
    obtain ⟨wj, hwj⟩ : ∃ q, q = ((wnj).setCell ⟨X, 0, none⟩ (.slice Aj lj.length cj)).setCell ⟨X, 1, none⟩ (.bool bj) := ⟨_, rfl⟩
    have ONj : Hid (Only (fun j => j = G ∨ j = X) wnj wj) := by show Only _ _ _; rw [hwj]; exact ((Only.refl (fun j => j = G ∨ j = X) wnj).put (ad := ⟨X, 0, none⟩) (Or.inr rfl) (.slice Aj lj.length cj)).put (ad := ⟨X, 1, none⟩) (Or.inr rfl) (.bool bj)
    have HGj : Hid (BoxS wj G (({ op := (op : Int), err := 0, items := [], IA := none, ik := 0, version := vi, count := 0, numbers := [], NA := none, nk := 0 } : Res))) := by show BoxS _ _ _; rw [hwj]; exact (BGn.out).only (set2 _ X _ _) (fun e => HXnG.out.1 e.symm)
    have HXj : Hid (Cel wj X (.slice Aj lj.length cj) (.bool bj)) := by show Cel _ _ _ _; rw [hwj]; exact Cel.set (BXn.out) _ _
    have HZj : Hid (BoxS wj (C + 1) (startS 0 0)) := by show BoxS _ _ _; rw [hwj]; exact (BZn.out).only (set2 _ X _ _) (fun e => HXnG.out.2.1 e.symm)
    have HBj : Hid (Below C w wj) := BBn.out.trans (ONj.out.below (B := C) (fun j e => by have := HGC.out; have := HXG.out; omega) (by have := BBn.out.size; have := HC.out; omega))
    have hszj : wi.heap.size ≤ wj.heap.size := Nat.le_trans hszn ONj.out.size
    rw [← hwj]
    clear hwj x0 x1 xf0 xf1 g0 g1 g2 g3 g4 g5 gu2 gu3 gu4 gu5 BGn BXn BZn BBn hszn HGi HXi HZi HBi HARGi
    have HRQ : Hid (R = if 1099511627776 < vj then none else if bj then none else finS ({ bareR (op : Int) 0 with version := vi, count := (vj : Int) }, lj)) := by show _ = _; rw [HRB.out]; exact head_w q HNXi.out HNXj.out
    clear HRB q
    by_cases hlim : 1099511627776 < vj
    · have HN : Hid (R = none) := by show _ = _; rw [HRQ.out, if_pos hlim]
      have e5 : decide ((1099511627776 : Int) < vj) = true := decide_eq_true (by omega)
      clear hlim
      obtain ⟨z0, z1, z2, z3, z4, z5, zun⟩ := HZj.out
      have zu0 := zun 0; have zu1 := zun 1; have zu2 := zun 2; have zu3 := zun 3; have zu4 := zun 4; have zu5 := zun 5
      have HBq := Lib.hid (HBj.out)
      clear zun
      go_wp2_with fail
      have HFz := put6 wj (C + 1) (.int .i64 0) (.int .i64 0) (.slice none 0 0) (.int .u64 0) (.int .i64 0) (.slice none 0 0)
      have HBf := HBq.out.trans (HFz.below (B := C) (fun j e => by omega) (by have h1 := HBq.out.size; have h2 := HC.out; omega))
      replace HBf := HBf.mono (show w.heap.size ≤ C by have h2 := HC.out; omega)
      exact bodyPost_ret (v := .tuple #[.agg #[.int .i64 0, .int .i64 0, .slice none 0 0, .int .u64 0, .int .i64 0, .slice none 0 0], .bool false]) (by simp [results, Try.results20, go_sem, z0, z1, z2, z3, z4, z5]) rfl (rr_none HN.out rfl HBf)
    have e5 : decide ((1099511627776 : Int) < vj) = false := decide_eq_false (by omega)
    have hvj : vj ≤ 1099511627776 := by omega
    have HRD : Hid (R = if bj then none else finS (({ op := (op : Int), err := 0, items := [], IA := none, ik := 0, version := vi, count := (vj : Int), numbers := [], NA := none, nk := 0 } : Res).r, lj)) := by show _ = _; rw [HRQ.out, if_neg hlim]; rfl
    clear hlim HRQ
    obtain ⟨g0, g1, g2, g3, g4, g5, gun⟩ := HGj.out
    have gu2 := gun 2; have gu3 := gun 3; have gu4 := gun 4; have gu5 := gun 5
    clear gun
    go_upto_region 25 with fail
    obtain ⟨wk, hwk⟩ : ∃ q, q = (wj).setCell ⟨G, 4, none⟩ (.int .i64 (vj : Int)) := ⟨_, rfl⟩
    have ONk : Hid (Only (fun j => j = G ∨ j = X) wj wk) := by show Only _ _ _; rw [hwk]; exact (Only.refl (fun j => j = G ∨ j = X) wj).put (ad := ⟨G, 4, none⟩) (Or.inl rfl) (.int .i64 (vj : Int))
    have HGk : Hid (BoxS wk G (({ op := (op : Int), err := 0, items := [], IA := none, ik := 0, version := vi, count := (vj : Int), numbers := [], NA := none, nk := 0 } : Res))) := by show BoxS _ _ _; rw [hwk]; exact (boxS_set (HGj.out)).2.2.2.1 (vj : Int)
    have HXk : Hid (Cel wk X (.slice Aj lj.length cj) (.bool bj)) := by show Cel _ _ _ _; rw [hwk]; exact cel_only (HXj.out) (one_put _ G 4 _) HXnG.out.1
    have HZk : Hid (BoxS wk (C + 1) (startS 0 0)) := by show BoxS _ _ _; rw [hwk]; exact (HZj.out).only (one_put _ G 4 _) (fun e => HXnG.out.2.2 e.symm)
    have HBk : Hid (Below C w wk) := HBj.out.trans (ONk.out.below (B := C) (fun j e => by have := HGC.out; have := HXG.out; omega) (by have := HBj.out.size; have := HC.out; omega))
    have hszk : wj.heap.size ≤ wk.heap.size := ONk.out.size
    rw [← hwk]
    clear hwk g0 g1 g2 g3 g4 g5 gu2 gu3 gu4 gu5 HGj HXj HZj HBj
    go_wp2_with fail
    go_loopw [9] (fun i wr => i = .int .u64 0 ∧ BoxS wr G (({ op := (op : Int), err := 0, items := [], IA := none, ik := 0, version := vi, count := (vj : Int), numbers := [], NA := none, nk := 0 } : Res)) ∧ Cel wr X (.slice Aj lj.length cj) (.bool bj) ∧ BoxS wr (C + 1) (startS 0 0) ∧ Below C w wr ∧ wr = wk) (fun _ _ => 0)
    case atStart => exact ⟨rfl, HGk.out, HXk.out, HZk.out, HBk.out, rfl⟩
    case round =>
      obtain ⟨rfl, a1, a2, a3, a4, a5⟩ := hrel
      obtain ⟨wq1, rfl⟩ : ∃ q : World, q = wr := ⟨_, rfl⟩
      have HGq1 := Lib.hid a1; have HXq1 := Lib.hid a2; have HZq1 := Lib.hid a3; have HBq1 := Lib.hid a4; have HWq1 := Lib.hid a5
      clear a1 a2 a3 a4 a5 HGk HXk HZk HBk
      go_wp2_with fail
      go_loopw [12] (fun i wr => i = .int .u64 0 ∧ BoxS wr G (({ op := (op : Int), err := 0, items := [], IA := none, ik := 0, version := vi, count := (vj : Int), numbers := [], NA := none, nk := 0 } : Res)) ∧ Cel wr X (.slice Aj lj.length cj) (.bool bj) ∧ BoxS wr (C + 1) (startS 0 0) ∧ Below C w wr ∧ wr = wq1) (fun _ _ => 0)
      case atStart => exact ⟨rfl, HGq1.out, HXq1.out, HZq1.out, HBq1.out, rfl⟩
      case round =>
        obtain ⟨rfl, a1, a2, a3, a4, a5⟩ := hrel
        obtain ⟨wq2, rfl⟩ : ∃ q : World, q = wr := ⟨_, rfl⟩
        have HGq2 := Lib.hid a1; have HXq2 := Lib.hid a2; have HZq2 := Lib.hid a3; have HBq2 := Lib.hid a4; have HWq2 := Lib.hid a5
        clear a1 a2 a3 a4 a5 HGq1 HXq1 HZq1 HBq1
        have HGT : Hid (GotS (C + 2) wq2 (({ op := (op : Int), err := 0, items := [], IA := none, ik := 0, version := vi, count := (vj : Int), numbers := [], NA := none, nk := 0 } : Res))) := ⟨⟨RI.nil _ _, fun _ => rfl, (fun y hy => by cases hy), (fun y hy => by cases hy), RN.nil _ _, fun _ => rfl⟩, bnd_got (n := 0) ho15 (by omega) (by omega) (by omega) hvi (by simp) (by simp) (fun y hy => by cases hy) (fun n hn => by cases hn) _ _ _ _, (fun a e => by cases e), (fun a e => by cases e), (fun y hy => by cases hy)⟩
        obtain ⟨x0, x1, _, _⟩ := HXq2.out
        cases bj
        rotate_left
        · have HN : Hid (R = none) := by show _ = _; rw [HRD.out]; rfl
          obtain ⟨z0, z1, z2, z3, z4, z5, zun⟩ := HZq2.out
          have zu0 := zun 0; have zu1 := zun 1; have zu2 := zun 2; have zu3 := zun 3; have zu4 := zun 4; have zu5 := zun 5
          have HBq := Lib.hid (HBq2.out)
          clear zun
          go_wp2_with fail
          have HFz := put6 wq2 (C + 1) (.int .i64 0) (.int .i64 0) (.slice none 0 0) (.int .u64 0) (.int .i64 0) (.slice none 0 0)
          have HBf := HBq.out.trans (HFz.below (B := C) (fun j e => by omega) (by have h1 := HBq.out.size; have h2 := HC.out; omega))
          replace HBf := HBf.mono (show w.heap.size ≤ C by have h2 := HC.out; omega)
          exact bodyPost_ret (v := .tuple #[.agg #[.int .i64 0, .int .i64 0, .slice none 0 0, .int .u64 0, .int .i64 0, .slice none 0 0], .bool false]) (by simp [results, Try.results20, go_sem, z0, z1, z2, z3, z4, z5]) rfl (rr_none HN.out rfl HBf)
        by_cases hl0 : 0 < lj.length
        · have HN : Hid (R = none) := by
            show _ = _; rw [HRD.out]; unfold finS; rw [if_neg (by simp), if_neg (fun h => by have := h.1; simp only at this; rw [this] at hl0; simp at hl0)]
          have hl1 : (0 : Int) < lj.length := by omega
          have hln : lj ≠ [] := fun e => by rw [e] at hl0; simp at hl0
          clear hl0
          obtain ⟨z0, z1, z2, z3, z4, z5, zun⟩ := HZq2.out
          have zu0 := zun 0; have zu1 := zun 1; have zu2 := zun 2; have zu3 := zun 3; have zu4 := zun 4; have zu5 := zun 5
          have HBq := Lib.hid (HBq2.out)
          clear zun
          go_wp2_with fail
          have HFz := put6 wq2 (C + 1) (.int .i64 0) (.int .i64 0) (.slice none 0 0) (.int .u64 0) (.int .i64 0) (.slice none 0 0)
          have HBf := HBq.out.trans (HFz.below (B := C) (fun j e => by omega) (by have h1 := HBq.out.size; have h2 := HC.out; omega))
          replace HBf := HBf.mono (show w.heap.size ≤ C by have h2 := HC.out; omega)
          exact bodyPost_ret (v := .tuple #[.agg #[.int .i64 0, .int .i64 0, .slice none 0 0, .int .u64 0, .int .i64 0, .slice none 0 0], .bool false]) (by simp [results, Try.results20, go_sem, z0, z1, z2, z3, z4, z5]) rfl (rr_none HN.out rfl HBf)
        have hl1 : ¬ (0 : Int) < lj.length := by omega
        have hle : lj = [] := List.eq_nil_of_length_eq_zero (by omega)
        have HRD2 : Hid (R = if validS (({ op := (op : Int), err := 0, items := [], IA := none, ik := 0, version := vi, count := (vj : Int), numbers := [], NA := none, nk := 0 } : Res)).r = true then some (({ op := (op : Int), err := 0, items := [], IA := none, ik := 0, version := vi, count := (vj : Int), numbers := [], NA := none, nk := 0 } : Res)).r else none) := by
          show _ = _; rw [HRD.out, hle]; unfold finS; simp
        clear HRD
        clear hl0 hl1
        subst hle
        simp only [List.length_nil] at x0
        have HV := Lib.hid (Sv.rvalid_any (({ op := (op : Int), err := 0, items := [], IA := none, ik := 0, version := vi, count := (vj : Int), numbers := [], NA := none, nk := 0 } : Res)) wq2 HGT.out.rc HGT.out.bnd)
        generalize validS (({ op := (op : Int), err := 0, items := [], IA := none, ik := 0, version := vi, count := (vj : Int), numbers := [], NA := none, nk := 0 } : Res)).r = vb at *
        unfold resV at HV
        obtain ⟨y0, y1, y2, y3, y4, y5, _⟩ := HGq2.out
        try simp only [List.length_nil] at HV y0 y1 y2 y3 y4 y5
        go_wp2_with fail
        with_reducible refine HV.out.mono ?_
        rintro e wv ⟨rfl, bv⟩
        have BOv := Lib.hid (HGq2.out.below bv (Nat.le_refl _))
        have GOv := Lib.hid (HGT.out.below bv (Nat.le_refl _))
        have BZv := Lib.hid ((HZq2.out).below bv (Nat.le_refl _))
        have HBv : Hid (Below C w wv) := (HBq2.out).trans (bv.mono (by have := (HBq2.out).size; have := HC.out; omega))
        clear bv y0 y1 y2 y3 y4 y5 x0 x1
        cases vb
        · have HN : Hid (R = none) := by show _ = _; rw [HRD2.out]; rfl
          obtain ⟨z0, z1, z2, z3, z4, z5, zun⟩ := BZv.out
          have zu0 := zun 0; have zu1 := zun 1; have zu2 := zun 2; have zu3 := zun 3; have zu4 := zun 4; have zu5 := zun 5
          have HBq := Lib.hid (HBv.out)
          clear zun
          go_wp2_with fail
          have HFz := put6 wv (C + 1) (.int .i64 0) (.int .i64 0) (.slice none 0 0) (.int .u64 0) (.int .i64 0) (.slice none 0 0)
          have HBf := HBq.out.trans (HFz.below (B := C) (fun j e => by omega) (by have h1 := HBq.out.size; have h2 := HC.out; omega))
          replace HBf := HBf.mono (show w.heap.size ≤ C by have h2 := HC.out; omega)
          exact bodyPost_ret (v := .tuple #[.agg #[.int .i64 0, .int .i64 0, .slice none 0 0, .int .u64 0, .int .i64 0, .slice none 0 0], .bool false]) (by simp [results, Try.results20, go_sem, z0, z1, z2, z3, z4, z5]) rfl (rr_none HN.out rfl HBf)
        obtain ⟨y0, y1, y2, y3, y4, y5, _⟩ := BOv.out
        obtain ⟨z0, z1, z2, z3, z4, z5, zun⟩ := BZv.out
        have zu0 := zun 0; have zu1 := zun 1; have zu2 := zun 2; have zu3 := zun 3; have zu4 := zun 4; have zu5 := zun 5
        clear zun
        have HSM : Hid (R = some (({ op := (op : Int), err := 0, items := [], IA := none, ik := 0, version := vi, count := (vj : Int), numbers := [], NA := none, nk := 0 } : Res)).r) := by show _ = _; rw [HRD2.out]; rfl
        have HGE : Hid (∃ q : Res, q = ({ op := (op : Int), err := 0, items := [], IA := none, ik := 0, version := vi, count := (vj : Int), numbers := [], NA := none, nk := 0 } : Res)) := ⟨_, rfl⟩
        obtain ⟨q, hq⟩ := HGE.out
        have f0 : q.op = (({ op := (op : Int), err := 0, items := [], IA := none, ik := 0, version := vi, count := (vj : Int), numbers := [], NA := none, nk := 0 } : Res)).op := by rw [hq]
        rw [← hq] at GOv HSM
        have w0c : wv.cell? ⟨G, 0, none⟩ = some (.int .i64 q.op) := by rw [hq]; exact y0
        have w1c : wv.cell? ⟨G, 1, none⟩ = some (.int .i64 q.err) := by rw [hq]; exact y1
        have w2c : wv.cell? ⟨G, 2, none⟩ = some (.slice q.IA q.items.length q.ik) := by rw [hq]; exact y2
        have w3c : wv.cell? ⟨G, 3, none⟩ = some (.int .u64 (q.version : Int)) := by rw [hq]; exact y3
        have w4c : wv.cell? ⟨G, 4, none⟩ = some (.int .i64 q.count) := by rw [hq]; exact y4
        have w5c : wv.cell? ⟨G, 5, none⟩ = some (.slice q.NA q.numbers.length q.nk) := by rw [hq]; exact y5
        clear y0 y1 y2 y3 y4 y5 hq f0 HGE BOv BZv
        go_wp2_with fail
        have HFz := put6 wv (C + 1) (.int .i64 q.op) (.int .i64 q.err) (.slice q.IA q.items.length q.ik) (.int .u64 (q.version : Int)) (.int .i64 q.count) (.slice q.NA q.numbers.length q.nk)
        have HGF := GOv.out.only HFz (fun j hj _ e => by omega)
        have HBf := HBv.out.trans (HFz.below (B := C) (fun j e => by omega) (by have h1 := HBv.out.size; have h2 := HC.out; omega))
        replace HBf := HBf.mono (show w.heap.size ≤ C by have h2 := HC.out; omega)
        exact bodyPost_ret (v := .tuple #[resV q, .bool true]) (by unfold resV; simp [results, Try.results20, go_sem, z0, z1, z2, z3, z4, z5]) rfl ⟨q, by rw [HSM.out]; rfl, HGF.mono (by have h2 := HC.out; omega), (fun c e => by rw [HSM.out] at e; injection e), (fun e => by rw [HSM.out] at e; cases e), HBf⟩
  case inr.inl =>
    have HNE := Lib.hid (fun W => need_at 105 q rfl W)
    obtain ⟨x0, x1, _, _⟩ := HX4.out
    go_wp2_with fail
    refine (HNE.out _).mono ?_
    rintro e wx ⟨rfl, rfl⟩
    clear g0' HNE
    have HRQ : Hid (R = (contI b 1 [] l).bind fun z => finS ({ bareR (op : Int) 0 with items := z.1 }, z.2)) := by show _ = _; rw [HRB.out]; exact head_i q
    clear x0 x1
    clear HRB q
    obtain ⟨g0, g1, g2, g3, g4, g5, gun⟩ := HG4.out
    have gu2 := gun 2; have gu3 := gun 3; have gu4 := gun 4; have gu5 := gun 5
    clear gun
    go_upto_region 25 with fail
    obtain ⟨wk, hwk⟩ : ∃ q, q = (w4).setCell ⟨G, 4, none⟩ (.int .i64 0) := ⟨_, rfl⟩
    have ONk : Hid (Only (fun j => j = G ∨ j = X) w4 wk) := by show Only _ _ _; rw [hwk]; exact (Only.refl (fun j => j = G ∨ j = X) w4).put (ad := ⟨G, 4, none⟩) (Or.inl rfl) (.int .i64 0)
    have HGk : Hid (BoxS wk G (({ op := (op : Int), err := 0, items := [], IA := none, ik := 0, version := 0, count := 0, numbers := [], NA := none, nk := 0 } : Res))) := by show BoxS _ _ _; rw [hwk]; exact (boxS_set (HG4.out)).2.2.2.1 0
    have HXk : Hid (Cel wk X (.slice A2 l.length c2) (.bool b)) := by show Cel _ _ _ _; rw [hwk]; exact cel_only (HX4.out) (one_put _ G 4 _) HXnG.out.1
    have HZk : Hid (BoxS wk (C + 1) (startS 0 0)) := by show BoxS _ _ _; rw [hwk]; exact (HZ4.out).only (one_put _ G 4 _) (fun e => HXnG.out.2.2 e.symm)
    have HBk : Hid (Below C w wk) := HB4.out.trans (ONk.out.below (B := C) (fun j e => by have := HGC.out; have := HXG.out; omega) (by have := HB4.out.size; have := HC.out; omega))
    have hszk : w4.heap.size ≤ wk.heap.size := ONk.out.size
    rw [← hwk]
    clear hwk g0 g1 g2 g3 g4 g5 gu2 gu3 gu4 gu5 HG4 HX4 HZ4 HB4
    have HGK : Hid (G < wk.heap.size ∧ X < wk.heap.size) := by show _ ∧ _; exact ⟨HGk.out.lt, HXk.out.lt⟩
    obtain ⟨K0, hK0⟩ : ∃ q, q = wk.heap.size := ⟨_, rfl⟩
    have HK0 := Lib.hid hK0
    rw [← hK0] at HGK
    clear hK0
    go_wp2_with fail
    go_loopw [9] (fun i wr => ∃ (k : Nat) (ys : List Im) (IA : Option Addr) (ik : Nat) (lq : Bs) (Aq : Option Addr) (cq : Nat) (bq : Bool), k ≤ 1 ∧ i = .int .u64 (k : Int) ∧ ys.length = k ∧ BoxS wr G (({ op := (op : Int), err := 0, items := ys, IA := IA, ik := ik, version := 0, count := 0, numbers := [], NA := none, nk := 0 } : Res)) ∧ ItO K0 wr IA ik ys ∧ Cel wr X (.slice Aq lq.length cq) (.bool bq) ∧ (∀ W, Below C w W → Arg W Aq lq cq) ∧ lq.length ≤ p.length ∧ contI b 1 [] l = contI bq (1 - k) (ys.map (·.i)) lq ∧ (∀ y ∈ ys, (0 ≤ y.i.mark ∧ y.i.mark ≤ 2) ∧ y.i.value.length ≤ 1000000 ∧ y.i.version < big ∧ y.i.dead < big) ∧ BoxS wr (C + 1) (startS 0 0) ∧ Below C w wr ∧ K0 ≤ wr.heap.size) (fun i _ => 1 - (intOf i).toNat)
    case atStart => exact ⟨0, [], none, 0, l, A2, c2, b, Nat.zero_le _, rfl, rfl, HGk.out, ItO.nil _ _, HXk.out, HA3.out, by omega, rfl, (fun y hy => by cases hy), HZk.out, HBk.out, by rw [HK0.out]; exact Nat.le_refl _⟩
    case round =>
      obtain ⟨k, ys, IA, ik, l0, A0, c0, b0, hk, rfl, hyl, a1, a2, a3, a4, hl0, a5, a6, a7, a8, a9⟩ := hrel
      obtain ⟨wo, rfl⟩ : ∃ q : World, q = wr := ⟨_, rfl⟩
      have HGo := Lib.hid a1; have HIo := Lib.hid a2; have HXo := Lib.hid a3; have HARGo : Hid (∀ W, Below C w W → Arg W A0 l0 c0) := a4; have HCo := Lib.hid a5; have HYo := Lib.hid a6; have HZo := Lib.hid a7; have HBo := Lib.hid a8; have HKo := Lib.hid a9
      clear a1 a2 a3 a4 a5 a6 a7 a8 a9 HGk HXk HZk HBk
      by_cases hlt : k < 1
      · have i1 : (k : Int) < 1 := by omega
        have hkm : 1 - k = (1 - (k + 1)) + 1 := by omega
        rw [hkm] at HCo
        have hk1 : k + 1 ≤ 1 := by omega
        obtain ⟨m, hm⟩ : ∃ m, m = 1 - (k + 1) := ⟨_, rfl⟩
        rw [← hm] at HCo
        have HMM := Lib.hid hm
        clear hm hkm hk
        obtain ⟨D, hD⟩ : ∃ D, D = wo.heap.size := ⟨_, rfl⟩
        obtain ⟨wD, hwD⟩ : ∃ wD, wD = wo.alloc (imO zeroM) := ⟨_, rfl⟩
        have bD : Below wo.heap.size wo wD := by rw [hwD]; exact alloc_below _ _
        have HDD : Hid (BoxI wD D zeroM) := by show BoxI _ _ _; rw [hwD, hD]; exact BoxI.new _ _
        have HGD := Lib.hid (HGo.out.below bD (Nat.le_refl _))
        have HXD := Lib.hid (HXo.out.below bD (Nat.le_refl _))
        have HZD := Lib.hid (HZo.out.below bD (Nat.le_refl _))
        have HID := Lib.hid (HIo.out.below bD (Nat.le_refl _))
        have HBD : Hid (Below C w wD) := HBo.out.trans (bD.mono (by have := HBo.out.size; have := HC.out; omega))
        have HDG : Hid (K0 ≤ D) := by show _ ≤ _; rw [hD]; exact HKo.out
        have HDN : Hid (D ≠ G ∧ D ≠ X ∧ D ≠ C + 1) := by show _ ∧ _ ∧ _; have := HGK.out; have := HDG.out; have := HGC.out; omega
        have HLD : Hid ((∀ a, IA = some a → a.block < D) ∧ (∀ y ∈ ys, ∀ a, y.A = some a → a.block < D)) := by
          show _ ∧ _; rw [hD]; exact ⟨fun a ha => (HIo.out.mi.base ha).2.1, fun y hy a ha => ((HIo.out.pay y hy).2.2 a ha).2.1⟩
        have HDW : Hid (D < wD.heap.size) := HDD.out.lt
        unfold imO zeroM zeroI at hwD
        simp only [List.length_nil] at hwD
        go_upto_region 29 with fail
        rw [← hD]
        first | rw [← hwD] | (rw [show (wo.alloc (.cells #[.int .i64 0, .slice none 0 0, .int .u64 0, .int .u64 0] 53)) = wD from hwD.symm])
        clear hwD hD bD HGo HXo HZo HIo HBo
        obtain ⟨x0, x1, _, _⟩ := HXD.out
        go_wp2_with fail
        refine (rnumber_any A0 l0 c0 b0 _ (HARGo.out _ HBD.out) (by omega)).mono ?_
        rintro e wna ⟨va, Aa, la, ca, ba, rfl, bn, ha, HNXa, hva, hla⟩
        have HARGa : Hid (∀ W, Below C w W → Arg W Aa la ca) := fun W h => ha W (HARGo.out W h)
        have hlpa : la.length ≤ p.length := by omega
        have BGn := Lib.hid (HGD.out.below bn (Nat.le_refl _))
        have BXn := Lib.hid (HXD.out.below bn (Nat.le_refl _))
        have BZn := Lib.hid (HZD.out.below bn (Nat.le_refl _))
        have BBn : Hid (Below C w wna) := HBD.out.trans (bn.mono (by have := HBD.out.size; have := HC.out; omega))
        have BDn := Lib.hid (HDD.out.below bn (Nat.le_refl _))
        have BIn := Lib.hid (HID.out.below bn (Nat.le_refl _))
        have hszn : wD.heap.size ≤ wna.heap.size := bn.size
        clear x0 x1
        obtain ⟨x0, x1, xf0, xf1⟩ := BXn.out
        obtain ⟨g0, g1, g2, g3, g4, g5, gun⟩ := BGn.out
        have gu2 := gun 2; have gu3 := gun 3; have gu4 := gun 4; have gu5 := gun 5
        obtain ⟨d0, d1, d2, d3, dun⟩ := BDn.out
        have du0 := dun 0; have du1 := dun 1; have du2 := dun 2; have du3 := dun 3
        clear dun
        clear bn ha gun
        have ndx := HDN.out.2.1; have nxd := fun e => HDN.out.2.1 (Eq.symm e); have ndg := HDN.out.1; have ngd := fun e => HDN.out.1 (Eq.symm e); have nxg := HXnG.out.1
        go_upto_region 31 with fail
        obtain ⟨wa, hwa⟩ : ∃ q, q = ((wna).setCell ⟨X, 0, none⟩ (.slice Aa la.length ca)).setCell ⟨X, 1, none⟩ (.bool ba) := ⟨_, rfl⟩
        have ONa : Hid (Only (fun j => j = G ∨ j = X ∨ j = D) wna wa) := by show Only _ _ _; rw [hwa]; exact ((Only.refl (fun j => j = G ∨ j = X ∨ j = D) wna).put (ad := ⟨X, 0, none⟩) (Or.inr (Or.inl rfl)) (.slice Aa la.length ca)).put (ad := ⟨X, 1, none⟩) (Or.inr (Or.inl rfl)) (.bool ba)
        have HGa : Hid (BoxS wa G (({ op := (op : Int), err := 0, items := ys, IA := IA, ik := ik, version := 0, count := 0, numbers := [], NA := none, nk := 0 } : Res))) := by show BoxS _ _ _; rw [hwa]; exact (BGn.out).only (set2 _ X _ _) (fun e => HXnG.out.1 e.symm)
        have HXa : Hid (Cel wa X (.slice Aa la.length ca) (.bool ba)) := by show Cel _ _ _ _; rw [hwa]; exact Cel.set (BXn.out) _ _
        have HZa : Hid (BoxS wa (C + 1) (startS 0 0)) := by show BoxS _ _ _; rw [hwa]; exact (BZn.out).only (set2 _ X _ _) (fun e => HXnG.out.2.1 e.symm)
        have HBa : Hid (Below C w wa) := BBn.out.trans (ONa.out.below (B := C) (fun j e => by have := HGC.out; have := HXG.out; have := HDG.out; have := HGK.out; omega) (by have := BBn.out.size; have := HC.out; omega))
        have HDa : Hid (BoxI wa D ((⟨⟨0, [], 0, 0⟩, none, 0⟩ : Im))) := by show BoxI _ _ _; rw [hwa]; exact (BDn.out).only (set2 _ X _ _) HDN.out.2.1
        have HIa := Lib.hid (BIn.out.other ONa.out (fun a ha e => by have h1 := (BIn.out.mi.base ha).1; have h2 := HLD.out.1 a ha; have := HGK.out; omega) (fun y hy a ha e => by have h1 := ((BIn.out.pay y hy).2.2 a ha).1; have h2 := HLD.out.2 y hy a ha; have := HGK.out; omega))
        clear BIn BDn d0 d1 d2 d3 du0 du1 du2 du3 ndx nxd ndg ngd nxg HDD HID
        have hsza : wD.heap.size ≤ wa.heap.size := Nat.le_trans hszn ONa.out.size
        rw [← hwa]
        clear hwa x0 x1 xf0 xf1 g0 g1 g2 g3 g4 g5 gu2 gu3 gu4 gu5 BGn BXn BZn BBn hszn HGD HXD HZD HBD HARGo
        by_cases hv2 : 2 < va
        · have HN : Hid (R = none) := by show _ = _; rw [HRQ.out, HCo.out, itm_big HNXa.out hv2]; rfl
          have e5 : decide ((2 : Int) < va) = true := decide_eq_true (by omega)
          clear hv2
          obtain ⟨z0, z1, z2, z3, z4, z5, zun⟩ := HZa.out
          have zu0 := zun 0; have zu1 := zun 1; have zu2 := zun 2; have zu3 := zun 3; have zu4 := zun 4; have zu5 := zun 5
          have HBq := Lib.hid (HBa.out)
          clear zun
          go_wp2_with fail
          have HFz := put6 wa (C + 1) (.int .i64 0) (.int .i64 0) (.slice none 0 0) (.int .u64 0) (.int .i64 0) (.slice none 0 0)
          have HBf := HBq.out.trans (HFz.below (B := C) (fun j e => by omega) (by have h1 := HBq.out.size; have h2 := HC.out; omega))
          replace HBf := HBf.mono (show w.heap.size ≤ C by have h2 := HC.out; omega)
          exact bodyPost_ret (v := .tuple #[.agg #[.int .i64 0, .int .i64 0, .slice none 0 0, .int .u64 0, .int .i64 0, .slice none 0 0], .bool false]) (by simp [results, Try.results20, go_sem, z0, z1, z2, z3, z4, z5]) rfl (rr_none HN.out rfl HBf)
        have e5 : decide ((2 : Int) < va) = false := decide_eq_false (by omega)
        have hva2 : va ≤ 2 := by omega
        clear hv2
        obtain ⟨d0, d1, d2, d3, dun⟩ := HDa.out
        have du0 := dun 0
        clear dun
        go_upto_region 34 with fail
        obtain ⟨wm, hwm⟩ : ∃ q, q = wa.setCell ⟨D, 0, none⟩ (.int .i64 (va : Int)) := ⟨_, rfl⟩
        have ONm : Hid (Only (fun j => j = D) wa wm) := by show Only _ _ _; rw [hwm]; exact one_put _ _ _ _
        have HGm := Lib.hid (HGa.out.only ONm.out (fun e => HDN.out.1 e.symm))
        have HXm := Lib.hid (cel_only HXa.out ONm.out (fun e => HDN.out.2.1 e.symm))
        have HZm := Lib.hid (HZa.out.only ONm.out (fun e => HDN.out.2.2 e.symm))
        have HDm : Hid (BoxI wm D ⟨⟨(va : Int), [], 0, 0⟩, none, 0⟩) := by show BoxI _ _ _; rw [hwm]; exact (boxI_set HDa.out).1 (va : Int)
        have HIm := Lib.hid (HIa.out.other ONm.out (fun a ha e => by have h2 := HLD.out.1 a ha; omega) (fun y hy a ha e => by have h2 := HLD.out.2 y hy a ha; omega))
        have HBm : Hid (Below C w wm) := HBa.out.trans (ONm.out.below (B := C) (fun j e => by have := HDG.out; have := HGK.out; have := HGC.out; omega) (by have := HBa.out.size; have := HC.out; omega))
        have hszm : wD.heap.size ≤ wm.heap.size := Nat.le_trans hsza ONm.out.size
        rw [← hwm]
        clear hwm d0 d1 d2 d3 du0 HGa HXa HZa HDa HIa HBa
        by_cases hv0 : va = 0
        · subst hv0
          obtain ⟨d0, d1, d2, d3, _⟩ := HDm.out
          simp only at d0 d1 d2 d3
          obtain ⟨g0, g1, g2, g3, g4, g5, gun⟩ := HGm.out
          have gu2 := gun 2
          simp only at g2
          clear gun
          have HPAY : Hid (Rb wm ((⟨⟨0, [], 0, 0⟩, none, 0⟩ : Im)).A ((⟨⟨0, [], 0, 0⟩, none, 0⟩ : Im)).i.value ∧ (((⟨⟨0, [], 0, 0⟩, none, 0⟩ : Im)).A = none → ((⟨⟨0, [], 0, 0⟩, none, 0⟩ : Im)).k = 0) ∧ ∀ a, ((⟨⟨0, [], 0, 0⟩, none, 0⟩ : Im)).A = some a → K0 ≤ a.block ∧ a.block < wm.heap.size ∧ ∀ b, IA = some b → a.block ≠ b.block) := ⟨Rb.nil _ _, fun _ => rfl, fun a e => by cases e⟩
          have hKw : K0 ≤ wm.heap.size := by have := HDW.out; have := HDG.out; omega
          go_wp2_with (at_builtin; (refine wpList_item rfl _ _ rfl hyl rfl HIm.out (⟨⟨0, [], 0, 0⟩, none, 0⟩ : Im) rfl rfl HPAY.out (by omega) hKw rfl ?_))
          intro IA2 ik2 wI ys2 HYS HI2 bI kI
          have HG2 := Lib.hid (HGm.out.kept (bI.block G HGK.out.1))
          have HX2 := Lib.hid (HXm.out.kept (bI.block X HGK.out.2))
          have HZ2 := Lib.hid (HZm.out.kept (bI.block (C + 1) (by have := HGK.out; have := HGC.out; omega)))
          have HB2 : Hid (Below C w wI) := HBm.out.trans (bI.mono (by have := HGK.out; have := HGC.out; omega))
          have HI3 := Lib.hid HI2
          have hzI := bI.size
          have O3 := Lib.hid (one_put wI G 2 (.slice IA2 ys2.length ik2))
          have HYL : Hid (ys2.length = k + 1) := by show _ = _; rw [HYS.out, List.length_append, hyl]; rfl
          have HG3 : Hid (BoxS (wI.setCell ⟨G, 2, none⟩ (.slice IA2 ys2.length ik2)) G (({ op := (op : Int), err := 0, items := ys2, IA := IA2, ik := ik2, version := 0, count := 0, numbers := [], NA := none, nk := 0 } : Res))) := (boxS_set HG2.out).2.1 IA2 ys2 ik2 _ rfl
          have HX3 := Lib.hid (cel_only HX2.out O3.out HXnG.out.1)
          have HZ3 := Lib.hid (HZ2.out.only O3.out (fun e => HXnG.out.2.2 e.symm))
          have HI4 := Lib.hid (HI3.out.only O3.out (fun j hj _ e => by have := HGK.out; omega))
          have HB3 : Hid (Below C w (wI.setCell ⟨G, 2, none⟩ (.slice IA2 ys2.length ik2))) := HB2.out.setCell (by have := HGC.out; simp; omega) _
          obtain ⟨_, _, p2, _, _, _, pun⟩ := HG2.out
          have pu2 := pun 2
          clear HI2 bI kI pun g0 g1 g2 g3 g4 g5 gu2 d0 d1 d2 d3
          go_wp2_with fail
          go_roundw
          case rel => exact ⟨k + 1, ys2, IA2, ik2, la, Aa, ca, ba, hk1, by go_num, HYL.out, HG3.out, HI4.out, HX3.out, HARGa.out, by omega, by rw [← HMM.out, HCo.out, HYS.out, List.map_append]; exact itm_zero HNXa.out, (fun y hy => by rw [HYS.out] at hy; rcases List.mem_append.1 hy with hy | hy; exact HYo.out y hy; rw [List.mem_singleton.1 hy]; exact ⟨⟨by simp, by simp⟩, by simp, by unfold big; simp, by unfold big; simp⟩), HZ3.out, HB3.out, by simp; omega⟩
          case measure => simp [intOf]; omega
        have e6 : ((va : Int) != 0) = true := by rw [bne_iff_ne]; omega
        obtain ⟨x0, x1, _, _⟩ := HXm.out
        go_wp2_with fail
        refine (rnumber_any Aa la ca ba _ (HARGa.out _ HBm.out) (by omega)).mono ?_
        rintro e wnf ⟨vf, Af, lf, cf, bf, rfl, bn, ha, HNXf, hvf, hlf⟩
        have HARGf : Hid (∀ W, Below C w W → Arg W Af lf cf) := fun W h => ha W (HARGa.out W h)
        have hlpf : lf.length ≤ p.length := by omega
        have BGn := Lib.hid (HGm.out.below bn (Nat.le_refl _))
        have BXn := Lib.hid (HXm.out.below bn (Nat.le_refl _))
        have BZn := Lib.hid (HZm.out.below bn (Nat.le_refl _))
        have BBn : Hid (Below C w wnf) := HBm.out.trans (bn.mono (by have := HBm.out.size; have := HC.out; omega))
        have BDn := Lib.hid (HDm.out.below bn (Nat.le_refl _))
        have BIn := Lib.hid (HIm.out.below bn (Nat.le_refl _))
        have hszn : wm.heap.size ≤ wnf.heap.size := bn.size
        clear x0 x1
        obtain ⟨x0, x1, xf0, xf1⟩ := BXn.out
        obtain ⟨g0, g1, g2, g3, g4, g5, gun⟩ := BGn.out
        have gu2 := gun 2; have gu3 := gun 3; have gu4 := gun 4; have gu5 := gun 5
        obtain ⟨d0, d1, d2, d3, dun⟩ := BDn.out
        have du0 := dun 0; have du1 := dun 1; have du2 := dun 2; have du3 := dun 3
        clear dun
        clear bn ha gun
        have ndx := HDN.out.2.1; have nxd := fun e => HDN.out.2.1 (Eq.symm e); have ndg := HDN.out.1; have ngd := fun e => HDN.out.1 (Eq.symm e); have nxg := HXnG.out.1
        go_upto_region 36 with fail
        obtain ⟨wf, hwf⟩ : ∃ q, q = (((wnf).setCell ⟨D, 2, none⟩ (.int .u64 (vf : Int))).setCell ⟨X, 0, none⟩ (.slice Af lf.length cf)).setCell ⟨X, 1, none⟩ (.bool bf) := ⟨_, rfl⟩
        have ONf : Hid (Only (fun j => j = G ∨ j = X ∨ j = D) wnf wf) := by show Only _ _ _; rw [hwf]; exact (((Only.refl (fun j => j = G ∨ j = X ∨ j = D) wnf).put (ad := ⟨D, 2, none⟩) (Or.inr (Or.inr rfl)) (.int .u64 (vf : Int))).put (ad := ⟨X, 0, none⟩) (Or.inr (Or.inl rfl)) (.slice Af lf.length cf)).put (ad := ⟨X, 1, none⟩) (Or.inr (Or.inl rfl)) (.bool bf)
        have HGf : Hid (BoxS wf G (({ op := (op : Int), err := 0, items := ys, IA := IA, ik := ik, version := 0, count := 0, numbers := [], NA := none, nk := 0 } : Res))) := by show BoxS _ _ _; rw [hwf]; exact ((BGn.out).only (one_put _ D 2 _) (fun e => HDN.out.1 e.symm)).only (set2 _ X _ _) (fun e => HXnG.out.1 e.symm)
        have HXf : Hid (Cel wf X (.slice Af lf.length cf) (.bool bf)) := by show Cel _ _ _ _; rw [hwf]; exact Cel.set (cel_only (BXn.out) (one_put _ D 2 _) (fun e => HDN.out.2.1 e.symm)) _ _
        have HZf : Hid (BoxS wf (C + 1) (startS 0 0)) := by show BoxS _ _ _; rw [hwf]; exact ((BZn.out).only (one_put _ D 2 _) (fun e => HDN.out.2.2 e.symm)).only (set2 _ X _ _) (fun e => HXnG.out.2.1 e.symm)
        have HBf : Hid (Below C w wf) := BBn.out.trans (ONf.out.below (B := C) (fun j e => by have := HGC.out; have := HXG.out; have := HDG.out; have := HGK.out; omega) (by have := BBn.out.size; have := HC.out; omega))
        have HDf : Hid (BoxI wf D ((⟨⟨(va : Int), [], vf, 0⟩, none, 0⟩ : Im))) := by show BoxI _ _ _; rw [hwf]; exact ((boxI_set (BDn.out)).2.2.1 vf).only (set2 _ X _ _) HDN.out.2.1
        have HIf := Lib.hid (BIn.out.other ONf.out (fun a ha e => by have h1 := (BIn.out.mi.base ha).1; have h2 := HLD.out.1 a ha; have := HGK.out; omega) (fun y hy a ha e => by have h1 := ((BIn.out.pay y hy).2.2 a ha).1; have h2 := HLD.out.2 y hy a ha; have := HGK.out; omega))
        clear BIn BDn d0 d1 d2 d3 du0 du1 du2 du3 ndx nxd ndg ngd nxg HDm HIm
        have hszf : wm.heap.size ≤ wf.heap.size := Nat.le_trans hszn ONf.out.size
        rw [← hwf]
        clear hwf x0 x1 xf0 xf1 g0 g1 g2 g3 g4 g5 gu2 gu3 gu4 gu5 BGn BXn BZn BBn hszn HGm HXm HZm HBm HARGa
        obtain ⟨x0, x1, _, _⟩ := HXf.out
        go_wp2_with fail
        refine (rnumber_any Af lf cf bf _ (HARGf.out _ HBf.out) (by omega)).mono ?_
        rintro e wng ⟨vg, Ag, lg, cg, bg, rfl, bn, ha, HNXg, hvg, hlg⟩
        have HARGg : Hid (∀ W, Below C w W → Arg W Ag lg cg) := fun W h => ha W (HARGf.out W h)
        have hlpg : lg.length ≤ p.length := by omega
        have BGn := Lib.hid (HGf.out.below bn (Nat.le_refl _))
        have BXn := Lib.hid (HXf.out.below bn (Nat.le_refl _))
        have BZn := Lib.hid (HZf.out.below bn (Nat.le_refl _))
        have BBn : Hid (Below C w wng) := HBf.out.trans (bn.mono (by have := HBf.out.size; have := HC.out; omega))
        have BDn := Lib.hid (HDf.out.below bn (Nat.le_refl _))
        have BIn := Lib.hid (HIf.out.below bn (Nat.le_refl _))
        have hszn : wf.heap.size ≤ wng.heap.size := bn.size
        clear x0 x1
        obtain ⟨x0, x1, xf0, xf1⟩ := BXn.out
        obtain ⟨g0, g1, g2, g3, g4, g5, gun⟩ := BGn.out
        have gu2 := gun 2; have gu3 := gun 3; have gu4 := gun 4; have gu5 := gun 5
        obtain ⟨d0, d1, d2, d3, dun⟩ := BDn.out
        have du0 := dun 0; have du1 := dun 1; have du2 := dun 2; have du3 := dun 3
        clear dun
        clear bn ha gun
        have ndx := HDN.out.2.1; have nxd := fun e => HDN.out.2.1 (Eq.symm e); have ndg := HDN.out.1; have ngd := fun e => HDN.out.1 (Eq.symm e); have nxg := HXnG.out.1
        go_upto_region 37 with fail
        obtain ⟨wg, hwg⟩ : ∃ q, q = ((wng).setCell ⟨X, 0, none⟩ (.slice Ag lg.length cg)).setCell ⟨X, 1, none⟩ (.bool bg) := ⟨_, rfl⟩
        have ONg : Hid (Only (fun j => j = G ∨ j = X ∨ j = D) wng wg) := by show Only _ _ _; rw [hwg]; exact ((Only.refl (fun j => j = G ∨ j = X ∨ j = D) wng).put (ad := ⟨X, 0, none⟩) (Or.inr (Or.inl rfl)) (.slice Ag lg.length cg)).put (ad := ⟨X, 1, none⟩) (Or.inr (Or.inl rfl)) (.bool bg)
        have HGg : Hid (BoxS wg G (({ op := (op : Int), err := 0, items := ys, IA := IA, ik := ik, version := 0, count := 0, numbers := [], NA := none, nk := 0 } : Res))) := by show BoxS _ _ _; rw [hwg]; exact (BGn.out).only (set2 _ X _ _) (fun e => HXnG.out.1 e.symm)
        have HXg : Hid (Cel wg X (.slice Ag lg.length cg) (.bool bg)) := by show Cel _ _ _ _; rw [hwg]; exact Cel.set (BXn.out) _ _
        have HZg : Hid (BoxS wg (C + 1) (startS 0 0)) := by show BoxS _ _ _; rw [hwg]; exact (BZn.out).only (set2 _ X _ _) (fun e => HXnG.out.2.1 e.symm)
        have HBg : Hid (Below C w wg) := BBn.out.trans (ONg.out.below (B := C) (fun j e => by have := HGC.out; have := HXG.out; have := HDG.out; have := HGK.out; omega) (by have := BBn.out.size; have := HC.out; omega))
        have HDg : Hid (BoxI wg D ((⟨⟨(va : Int), [], vf, 0⟩, none, 0⟩ : Im))) := by show BoxI _ _ _; rw [hwg]; exact (BDn.out).only (set2 _ X _ _) HDN.out.2.1
        have HIg := Lib.hid (BIn.out.other ONg.out (fun a ha e => by have h1 := (BIn.out.mi.base ha).1; have h2 := HLD.out.1 a ha; have := HGK.out; omega) (fun y hy a ha e => by have h1 := ((BIn.out.pay y hy).2.2 a ha).1; have h2 := HLD.out.2 y hy a ha; have := HGK.out; omega))
        clear BIn BDn d0 d1 d2 d3 du0 du1 du2 du3 ndx nxd ndg ngd nxg HDf HIf
        have hszg : wf.heap.size ≤ wg.heap.size := Nat.le_trans hszn ONg.out.size
        rw [← hwg]
        clear hwg x0 x1 xf0 xf1 g0 g1 g2 g3 g4 g5 gu2 gu3 gu4 gu5 BGn BXn BZn BBn hszn HGf HXf HZf HBf HARGf
        obtain ⟨d0, d1, d2, d3, dun⟩ := HDg.out
        have du3 := dun 3
        clear dun
        go_upto_region 38 with fail
        obtain ⟨wt, hwt⟩ : ∃ q, q = wg.setCell ⟨D, 3, none⟩ (.int .u64 (vg : Int)) := ⟨_, rfl⟩
        have ONt : Hid (Only (fun j => j = D) wg wt) := by show Only _ _ _; rw [hwt]; exact one_put _ _ _ _
        have HGt := Lib.hid (HGg.out.only ONt.out (fun e => HDN.out.1 e.symm))
        have HXt := Lib.hid (cel_only HXg.out ONt.out (fun e => HDN.out.2.1 e.symm))
        have HZt := Lib.hid (HZg.out.only ONt.out (fun e => HDN.out.2.2 e.symm))
        have HDt : Hid (BoxI wt D ⟨⟨(va : Int), [], vf, vg⟩, none, 0⟩) := by show BoxI _ _ _; rw [hwt]; exact (boxI_set HDg.out).2.2.2 vg
        have HIt := Lib.hid (HIg.out.other ONt.out (fun a ha e => by have h2 := HLD.out.1 a ha; omega) (fun y hy a ha e => by have h2 := HLD.out.2 y hy a ha; omega))
        have HBt : Hid (Below C w wt) := HBg.out.trans (ONt.out.below (B := C) (fun j e => by have := HDG.out; have := HGK.out; have := HGC.out; omega) (by have := HBg.out.size; have := HC.out; omega))
        have hszt : wD.heap.size ≤ wt.heap.size := by have := ONt.out.size; omega
        rw [← hwt]
        clear hwt d0 d1 d2 d3 du3 HGg HXg HZg HDg HIg HBg
        obtain ⟨x0, x1, _, _⟩ := HXt.out
        go_wp2_with fail
        refine (rbytes_any Ag lg cg bg _ (HARGg.out _ HBt.out) (by omega)).mono ?_
        rintro e wnh ⟨pvh, sh, Ah, lh, ch, bh, rfl, hown, bn, ha, HNXh, hvh, hlh⟩
        obtain ⟨PAh, pch, sp⟩ := own_shape hown
        obtain rfl := sp.val
        have SPh := Lib.hid sp
        clear sp hown
        have HARGh : Hid (∀ W, Below C w W → Arg W Ah lh ch) := fun W h => ha W (HARGg.out W h)
        have hlph : lh.length ≤ p.length := by omega
        have BGn := Lib.hid (HGt.out.below bn (Nat.le_refl _))
        have BXn := Lib.hid (HXt.out.below bn (Nat.le_refl _))
        have BZn := Lib.hid (HZt.out.below bn (Nat.le_refl _))
        have BBn : Hid (Below C w wnh) := HBt.out.trans (bn.mono (by have := HBt.out.size; have := HC.out; omega))
        have BDn := Lib.hid (HDt.out.below bn (Nat.le_refl _))
        have BIn := Lib.hid (HIt.out.below bn (Nat.le_refl _))
        have hszn : wt.heap.size ≤ wnh.heap.size := bn.size
        clear x0 x1
        obtain ⟨x0, x1, xf0, xf1⟩ := BXn.out
        obtain ⟨g0, g1, g2, g3, g4, g5, gun⟩ := BGn.out
        have gu2 := gun 2; have gu3 := gun 3; have gu4 := gun 4; have gu5 := gun 5
        obtain ⟨d0, d1, d2, d3, dun⟩ := BDn.out
        have du0 := dun 0; have du1 := dun 1; have du2 := dun 2; have du3 := dun 3
        clear dun
        clear bn ha gun
        have ndx := HDN.out.2.1; have nxd := fun e => HDN.out.2.1 (Eq.symm e); have ndg := HDN.out.1; have ngd := fun e => HDN.out.1 (Eq.symm e); have nxg := HXnG.out.1
        go_upto_region 39 with fail
        obtain ⟨wh, hwh⟩ : ∃ q, q = (((wnh).setCell ⟨D, 1, none⟩ (.slice PAh sh.length pch)).setCell ⟨X, 0, none⟩ (.slice Ah lh.length ch)).setCell ⟨X, 1, none⟩ (.bool bh) := ⟨_, rfl⟩
        have ONh : Hid (Only (fun j => j = G ∨ j = X ∨ j = D) wnh wh) := by show Only _ _ _; rw [hwh]; exact (((Only.refl (fun j => j = G ∨ j = X ∨ j = D) wnh).put (ad := ⟨D, 1, none⟩) (Or.inr (Or.inr rfl)) (.slice PAh sh.length pch)).put (ad := ⟨X, 0, none⟩) (Or.inr (Or.inl rfl)) (.slice Ah lh.length ch)).put (ad := ⟨X, 1, none⟩) (Or.inr (Or.inl rfl)) (.bool bh)
        have HGh : Hid (BoxS wh G (({ op := (op : Int), err := 0, items := ys, IA := IA, ik := ik, version := 0, count := 0, numbers := [], NA := none, nk := 0 } : Res))) := by show BoxS _ _ _; rw [hwh]; exact ((BGn.out).only (one_put _ D 1 _) (fun e => HDN.out.1 e.symm)).only (set2 _ X _ _) (fun e => HXnG.out.1 e.symm)
        have HXh : Hid (Cel wh X (.slice Ah lh.length ch) (.bool bh)) := by show Cel _ _ _ _; rw [hwh]; exact Cel.set (cel_only (BXn.out) (one_put _ D 1 _) (fun e => HDN.out.2.1 e.symm)) _ _
        have HZh : Hid (BoxS wh (C + 1) (startS 0 0)) := by show BoxS _ _ _; rw [hwh]; exact ((BZn.out).only (one_put _ D 1 _) (fun e => HDN.out.2.2 e.symm)).only (set2 _ X _ _) (fun e => HXnG.out.2.1 e.symm)
        have HBh : Hid (Below C w wh) := BBn.out.trans (ONh.out.below (B := C) (fun j e => by have := HGC.out; have := HXG.out; have := HDG.out; have := HGK.out; omega) (by have := BBn.out.size; have := HC.out; omega))
        have HDh : Hid (BoxI wh D ((⟨⟨(va : Int), sh, vf, vg⟩, PAh, pch⟩ : Im))) := by show BoxI _ _ _; rw [hwh]; exact ((boxI_set (BDn.out)).2.1 PAh sh pch).only (set2 _ X _ _) HDN.out.2.1
        have HIh := Lib.hid (BIn.out.other ONh.out (fun a ha e => by have h1 := (BIn.out.mi.base ha).1; have h2 := HLD.out.1 a ha; have := HGK.out; omega) (fun y hy a ha e => by have h1 := ((BIn.out.pay y hy).2.2 a ha).1; have h2 := HLD.out.2 y hy a ha; have := HGK.out; omega))
        clear BIn BDn d0 d1 d2 d3 du0 du1 du2 du3 ndx nxd ndg ngd nxg HDt HIt
        have hszh : wt.heap.size ≤ wh.heap.size := Nat.le_trans hszn ONh.out.size
        rw [← hwh]
        clear hwh x0 x1 xf0 xf1 g0 g1 g2 g3 g4 g5 gu2 gu3 gu4 gu5 BGn BXn BZn BBn hszn HGt HXt HZt HBt HARGg
        have HPB : Hid (∀ a, PAh = some a → wt.heap.size ≤ a.block ∧ a.block < wnh.heap.size) := fun a ha => ⟨(SPh.out.base a ha).1, (SPh.out.base a ha).2⟩
        have HPR : Hid (Rb wh PAh sh) := rb_only SPh.out.rd ONh.out (fun a ha e => by have h1 := (HPB.out a ha).1; have := HDW.out; have := HDG.out; have := HGK.out; omega)
        have HPS : Hid (wnh.heap.size ≤ wh.heap.size) := ONh.out.size
        obtain ⟨d0, d1, d2, d3, _⟩ := HDh.out
        simp only at d0 d1 d2 d3
        obtain ⟨g0, g1, g2, g3, g4, g5, gun⟩ := HGh.out
        have gu2 := gun 2
        simp only at g2
        clear gun
        have HPAY : Hid (Rb wh ((⟨⟨(va : Int), sh, vf, vg⟩, PAh, pch⟩ : Im)).A ((⟨⟨(va : Int), sh, vf, vg⟩, PAh, pch⟩ : Im)).i.value ∧ (((⟨⟨(va : Int), sh, vf, vg⟩, PAh, pch⟩ : Im)).A = none → ((⟨⟨(va : Int), sh, vf, vg⟩, PAh, pch⟩ : Im)).k = 0) ∧ ∀ a, ((⟨⟨(va : Int), sh, vf, vg⟩, PAh, pch⟩ : Im)).A = some a → K0 ≤ a.block ∧ a.block < wh.heap.size ∧ ∀ b, IA = some b → a.block ≠ b.block) := ⟨HPR.out, SPh.out.non, fun a ha => by have h1 := HPB.out a ha; have h2 := HPS.out; have h3 := HDW.out; have h4 := HDG.out; exact ⟨by omega, by omega, fun b hb e => by have := HLD.out.1 b hb; omega⟩⟩
        have hKw : K0 ≤ wh.heap.size := by have := HDW.out; have := HDG.out; omega
        go_wp2_with (at_builtin; (refine wpList_item rfl _ _ rfl hyl rfl HIh.out (⟨⟨(va : Int), sh, vf, vg⟩, PAh, pch⟩ : Im) rfl rfl HPAY.out (by omega) hKw rfl ?_))
        intro IA2 ik2 wI ys2 HYS HI2 bI kI
        have HG2 := Lib.hid (HGh.out.kept (bI.block G HGK.out.1))
        have HX2 := Lib.hid (HXh.out.kept (bI.block X HGK.out.2))
        have HZ2 := Lib.hid (HZh.out.kept (bI.block (C + 1) (by have := HGK.out; have := HGC.out; omega)))
        have HB2 : Hid (Below C w wI) := HBh.out.trans (bI.mono (by have := HGK.out; have := HGC.out; omega))
        have HI3 := Lib.hid HI2
        have hzI := bI.size
        have O3 := Lib.hid (one_put wI G 2 (.slice IA2 ys2.length ik2))
        have HYL : Hid (ys2.length = k + 1) := by show _ = _; rw [HYS.out, List.length_append, hyl]; rfl
        have HG3 : Hid (BoxS (wI.setCell ⟨G, 2, none⟩ (.slice IA2 ys2.length ik2)) G (({ op := (op : Int), err := 0, items := ys2, IA := IA2, ik := ik2, version := 0, count := 0, numbers := [], NA := none, nk := 0 } : Res))) := (boxS_set HG2.out).2.1 IA2 ys2 ik2 _ rfl
        have HX3 := Lib.hid (cel_only HX2.out O3.out HXnG.out.1)
        have HZ3 := Lib.hid (HZ2.out.only O3.out (fun e => HXnG.out.2.2 e.symm))
        have HI4 := Lib.hid (HI3.out.only O3.out (fun j hj _ e => by have := HGK.out; omega))
        have HB3 : Hid (Below C w (wI.setCell ⟨G, 2, none⟩ (.slice IA2 ys2.length ik2))) := HB2.out.setCell (by have := HGC.out; simp; omega) _
        obtain ⟨_, _, p2, _, _, _, pun⟩ := HG2.out
        have pu2 := pun 2
        clear HI2 bI kI pun g0 g1 g2 g3 g4 g5 gu2 d0 d1 d2 d3
        go_wp2_with fail
        go_roundw
        case rel => exact ⟨k + 1, ys2, IA2, ik2, lh, Ah, ch, bh, hk1, by go_num, HYL.out, HG3.out, HI4.out, HX3.out, HARGh.out, by omega, by rw [← HMM.out, HCo.out, HYS.out, List.map_append]; exact itm_full HNXa.out hva2 hv0 HNXf.out HNXg.out HNXh.out, (fun y hy => by rw [HYS.out] at hy; rcases List.mem_append.1 hy with hy | hy; exact HYo.out y hy; rw [List.mem_singleton.1 hy]; exact ⟨⟨by simp, by simp; omega⟩, by simp; omega, hvf, hvg⟩), HZ3.out, HB3.out, by simp; omega⟩
        case measure => simp [intOf]; omega
      · obtain rfl : 1 = k := by omega
        have hnn : ¬ ((1 : Nat) : Int) < 1 := by omega
        have HRD : Hid (R = if b0 then none else finS (({ op := (op : Int), err := 0, items := ys, IA := IA, ik := ik, version := 0, count := 0, numbers := [], NA := none, nk := 0 } : Res).r, l0)) := by
          show _ = _; rw [HRQ.out, HCo.out, Nat.sub_self, contI_end]; cases b0 <;> rfl
        have HGT : Hid (GotS (C + 2) wo (({ op := (op : Int), err := 0, items := ys, IA := IA, ik := ik, version := 0, count := 0, numbers := [], NA := none, nk := 0 } : Res))) := ⟨⟨ri_mine HIo.out.mi, HIo.out.mi.non, (fun y hy => (HIo.out.pay y hy).1), (fun y hy => (HIo.out.pay y hy).2.1), RN.nil _ _, fun _ => rfl⟩, bnd_got (n := 0) ho15 (by omega) (by omega) (by omega) (by unfold big; omega) (by omega) (by simp) HYo.out (fun n hn => by cases hn) _ _ _ _, fun a ha => ⟨by have := (HIo.out.mi.base ha).1; have := HGK.out; have := HGC.out; omega, (HIo.out.mi.base ha).2.1⟩, (fun a e => by cases e), fun y hy a ha => ⟨by have := ((HIo.out.pay y hy).2.2 a ha).1; have := HGK.out; have := HGC.out; omega, ((HIo.out.pay y hy).2.2 a ha).2.1⟩⟩
        clear HIo HYo HCo hyl HRQ
        go_wp2_with fail
        go_loopw [12] (fun i wr => i = .int .u64 0 ∧ BoxS wr G (({ op := (op : Int), err := 0, items := ys, IA := IA, ik := ik, version := 0, count := 0, numbers := [], NA := none, nk := 0 } : Res)) ∧ Cel wr X (.slice A0 l0.length c0) (.bool b0) ∧ BoxS wr (C + 1) (startS 0 0) ∧ Below C w wr ∧ wr = wo) (fun _ _ => 0)
        case atStart => exact ⟨rfl, HGo.out, HXo.out, HZo.out, HBo.out, rfl⟩
        case round =>
          obtain ⟨rfl, a1, a2, a3, a4, a5⟩ := hrel
          obtain ⟨wq2, rfl⟩ : ∃ q : World, q = wr := ⟨_, rfl⟩
          have HGq2 := Lib.hid a1; have HXq2 := Lib.hid a2; have HZq2 := Lib.hid a3; have HBq2 := Lib.hid a4; have HWq2 := Lib.hid a5
          clear a1 a2 a3 a4 a5 HGo HXo HZo HBo
          have HGT2 : Hid (GotS (C + 2) wq2 (({ op := (op : Int), err := 0, items := ys, IA := IA, ik := ik, version := 0, count := 0, numbers := [], NA := none, nk := 0 } : Res))) := by show GotS _ _ _; rw [HWq2.out]; exact HGT.out
          obtain ⟨x0, x1, _, _⟩ := HXq2.out
          cases b0
          rotate_left
          · have HN : Hid (R = none) := by show _ = _; rw [HRD.out]; rfl
            obtain ⟨z0, z1, z2, z3, z4, z5, zun⟩ := HZq2.out
            have zu0 := zun 0; have zu1 := zun 1; have zu2 := zun 2; have zu3 := zun 3; have zu4 := zun 4; have zu5 := zun 5
            have HBq := Lib.hid (HBq2.out)
            clear zun
            go_wp2_with fail
            have HFz := put6 wq2 (C + 1) (.int .i64 0) (.int .i64 0) (.slice none 0 0) (.int .u64 0) (.int .i64 0) (.slice none 0 0)
            have HBf := HBq.out.trans (HFz.below (B := C) (fun j e => by omega) (by have h1 := HBq.out.size; have h2 := HC.out; omega))
            replace HBf := HBf.mono (show w.heap.size ≤ C by have h2 := HC.out; omega)
            exact bodyPost_ret (v := .tuple #[.agg #[.int .i64 0, .int .i64 0, .slice none 0 0, .int .u64 0, .int .i64 0, .slice none 0 0], .bool false]) (by simp [results, Try.results20, go_sem, z0, z1, z2, z3, z4, z5]) rfl (rr_none HN.out rfl HBf)
          by_cases hl0 : 0 < l0.length
          · have HN : Hid (R = none) := by
              show _ = _; rw [HRD.out]; unfold finS; rw [if_neg (by simp), if_neg (fun h => by have := h.1; simp only at this; rw [this] at hl0; simp at hl0)]
            have hl1 : (0 : Int) < l0.length := by omega
            have hln : l0 ≠ [] := fun e => by rw [e] at hl0; simp at hl0
            clear hl0
            obtain ⟨z0, z1, z2, z3, z4, z5, zun⟩ := HZq2.out
            have zu0 := zun 0; have zu1 := zun 1; have zu2 := zun 2; have zu3 := zun 3; have zu4 := zun 4; have zu5 := zun 5
            have HBq := Lib.hid (HBq2.out)
            clear zun
            go_wp2_with fail
            have HFz := put6 wq2 (C + 1) (.int .i64 0) (.int .i64 0) (.slice none 0 0) (.int .u64 0) (.int .i64 0) (.slice none 0 0)
            have HBf := HBq.out.trans (HFz.below (B := C) (fun j e => by omega) (by have h1 := HBq.out.size; have h2 := HC.out; omega))
            replace HBf := HBf.mono (show w.heap.size ≤ C by have h2 := HC.out; omega)
            exact bodyPost_ret (v := .tuple #[.agg #[.int .i64 0, .int .i64 0, .slice none 0 0, .int .u64 0, .int .i64 0, .slice none 0 0], .bool false]) (by simp [results, Try.results20, go_sem, z0, z1, z2, z3, z4, z5]) rfl (rr_none HN.out rfl HBf)
          have hl1 : ¬ (0 : Int) < l0.length := by omega
          have hle : l0 = [] := List.eq_nil_of_length_eq_zero (by omega)
          have HRD2 : Hid (R = if validS (({ op := (op : Int), err := 0, items := ys, IA := IA, ik := ik, version := 0, count := 0, numbers := [], NA := none, nk := 0 } : Res)).r = true then some (({ op := (op : Int), err := 0, items := ys, IA := IA, ik := ik, version := 0, count := 0, numbers := [], NA := none, nk := 0 } : Res)).r else none) := by
            show _ = _; rw [HRD.out, hle]; unfold finS; simp
          clear HRD
          clear hl0 hl1
          subst hle
          simp only [List.length_nil] at x0
          have HV := Lib.hid (Sv.rvalid_any (({ op := (op : Int), err := 0, items := ys, IA := IA, ik := ik, version := 0, count := 0, numbers := [], NA := none, nk := 0 } : Res)) wq2 HGT2.out.rc HGT2.out.bnd)
          generalize validS (({ op := (op : Int), err := 0, items := ys, IA := IA, ik := ik, version := 0, count := 0, numbers := [], NA := none, nk := 0 } : Res)).r = vb at *
          unfold resV at HV
          obtain ⟨y0, y1, y2, y3, y4, y5, _⟩ := HGq2.out
          try simp only [List.length_nil, Int.natCast_zero] at HV y0 y1 y2 y3 y4 y5
          go_wp2_with fail
          with_reducible refine HV.out.mono ?_
          rintro e wv ⟨rfl, bv⟩
          have BOv := Lib.hid (HGq2.out.below bv (Nat.le_refl _))
          have GOv := Lib.hid (HGT2.out.below bv (Nat.le_refl _))
          have BZv := Lib.hid ((HZq2.out).below bv (Nat.le_refl _))
          have HBv : Hid (Below C w wv) := (HBq2.out).trans (bv.mono (by have := (HBq2.out).size; have := HC.out; omega))
          clear bv y0 y1 y2 y3 y4 y5 x0 x1
          cases vb
          · have HN : Hid (R = none) := by show _ = _; rw [HRD2.out]; rfl
            obtain ⟨z0, z1, z2, z3, z4, z5, zun⟩ := BZv.out
            have zu0 := zun 0; have zu1 := zun 1; have zu2 := zun 2; have zu3 := zun 3; have zu4 := zun 4; have zu5 := zun 5
            have HBq := Lib.hid (HBv.out)
            clear zun
            go_wp2_with fail
            have HFz := put6 wv (C + 1) (.int .i64 0) (.int .i64 0) (.slice none 0 0) (.int .u64 0) (.int .i64 0) (.slice none 0 0)
            have HBf := HBq.out.trans (HFz.below (B := C) (fun j e => by omega) (by have h1 := HBq.out.size; have h2 := HC.out; omega))
            replace HBf := HBf.mono (show w.heap.size ≤ C by have h2 := HC.out; omega)
            exact bodyPost_ret (v := .tuple #[.agg #[.int .i64 0, .int .i64 0, .slice none 0 0, .int .u64 0, .int .i64 0, .slice none 0 0], .bool false]) (by simp [results, Try.results20, go_sem, z0, z1, z2, z3, z4, z5]) rfl (rr_none HN.out rfl HBf)
          obtain ⟨y0, y1, y2, y3, y4, y5, _⟩ := BOv.out
          obtain ⟨z0, z1, z2, z3, z4, z5, zun⟩ := BZv.out
          have zu0 := zun 0; have zu1 := zun 1; have zu2 := zun 2; have zu3 := zun 3; have zu4 := zun 4; have zu5 := zun 5
          clear zun
          have HSM : Hid (R = some (({ op := (op : Int), err := 0, items := ys, IA := IA, ik := ik, version := 0, count := 0, numbers := [], NA := none, nk := 0 } : Res)).r) := by show _ = _; rw [HRD2.out]; rfl
          have HGE : Hid (∃ q : Res, q = ({ op := (op : Int), err := 0, items := ys, IA := IA, ik := ik, version := 0, count := 0, numbers := [], NA := none, nk := 0 } : Res)) := ⟨_, rfl⟩
          obtain ⟨q, hq⟩ := HGE.out
          have f0 : q.op = (({ op := (op : Int), err := 0, items := ys, IA := IA, ik := ik, version := 0, count := 0, numbers := [], NA := none, nk := 0 } : Res)).op := by rw [hq]
          rw [← hq] at GOv HSM
          have w0c : wv.cell? ⟨G, 0, none⟩ = some (.int .i64 q.op) := by rw [hq]; exact y0
          have w1c : wv.cell? ⟨G, 1, none⟩ = some (.int .i64 q.err) := by rw [hq]; exact y1
          have w2c : wv.cell? ⟨G, 2, none⟩ = some (.slice q.IA q.items.length q.ik) := by rw [hq]; exact y2
          have w3c : wv.cell? ⟨G, 3, none⟩ = some (.int .u64 (q.version : Int)) := by rw [hq]; exact y3
          have w4c : wv.cell? ⟨G, 4, none⟩ = some (.int .i64 q.count) := by rw [hq]; exact y4
          have w5c : wv.cell? ⟨G, 5, none⟩ = some (.slice q.NA q.numbers.length q.nk) := by rw [hq]; exact y5
          clear y0 y1 y2 y3 y4 y5 hq f0 HGE BOv BZv
          go_wp2_with fail
          have HFz := put6 wv (C + 1) (.int .i64 q.op) (.int .i64 q.err) (.slice q.IA q.items.length q.ik) (.int .u64 (q.version : Int)) (.int .i64 q.count) (.slice q.NA q.numbers.length q.nk)
          have HGF := GOv.out.only HFz (fun j hj _ e => by omega)
          have HBf := HBv.out.trans (HFz.below (B := C) (fun j e => by omega) (by have h1 := HBv.out.size; have h2 := HC.out; omega))
          replace HBf := HBf.mono (show w.heap.size ≤ C by have h2 := HC.out; omega)
          exact bodyPost_ret (v := .tuple #[resV q, .bool true]) (by unfold resV; simp [results, Try.results20, go_sem, z0, z1, z2, z3, z4, z5]) rfl ⟨q, by rw [HSM.out]; rfl, HGF.mono (by have h2 := HC.out; omega), (fun c e => by rw [HSM.out] at e; injection e), (fun e => by rw [HSM.out] at e; cases e), HBf⟩
  case inr.inr.inl =>
    have HNE := Lib.hid (fun W => need_at 109 q rfl W)
    obtain ⟨x0, x1, _, _⟩ := HX4.out
    go_wp2_with fail
    refine (HNE.out _).mono ?_
    rintro e wx ⟨rfl, rfl⟩
    clear g0' HNE
    go_wp2_with fail
    refine (rnumber_any A2 l c2 b _ (HA3.out _ HB4.out) (by omega)).mono ?_
    rintro e wnj ⟨vj, Aj, lj, cj, bj, rfl, bn, ha, HNXj, hvj, hlj⟩
    have HARGj : Hid (∀ W, Below C w W → Arg W Aj lj cj) := fun W h => ha W (HA3.out W h)
    have hlpj : lj.length ≤ p.length := by omega
    have BGn := Lib.hid (HG4.out.below bn (Nat.le_refl _))
    have BXn := Lib.hid (HX4.out.below bn (Nat.le_refl _))
    have BZn := Lib.hid (HZ4.out.below bn (Nat.le_refl _))
    have BBn : Hid (Below C w wnj) := HB4.out.trans (bn.mono (by have := HB4.out.size; have := HC.out; omega))
    have hszn : w4.heap.size ≤ wnj.heap.size := bn.size
    clear x0 x1
    obtain ⟨x0, x1, xf0, xf1⟩ := BXn.out
    obtain ⟨g0, g1, g2, g3, g4, g5, gun⟩ := BGn.out
    have gu2 := gun 2; have gu3 := gun 3; have gu4 := gun 4; have gu5 := gun 5
    clear bn ha gun
    go_upto_region 22 with fail
    obtain ⟨wj, hwj⟩ : ∃ q, q = ((wnj).setCell ⟨X, 0, none⟩ (.slice Aj lj.length cj)).setCell ⟨X, 1, none⟩ (.bool bj) := ⟨_, rfl⟩
    have ONj : Hid (Only (fun j => j = G ∨ j = X) wnj wj) := by show Only _ _ _; rw [hwj]; exact ((Only.refl (fun j => j = G ∨ j = X) wnj).put (ad := ⟨X, 0, none⟩) (Or.inr rfl) (.slice Aj lj.length cj)).put (ad := ⟨X, 1, none⟩) (Or.inr rfl) (.bool bj)
    have HGj : Hid (BoxS wj G (startS (op : Int) 0)) := by show BoxS _ _ _; rw [hwj]; exact (BGn.out).only (set2 _ X _ _) (fun e => HXnG.out.1 e.symm)
    have HXj : Hid (Cel wj X (.slice Aj lj.length cj) (.bool bj)) := by show Cel _ _ _ _; rw [hwj]; exact Cel.set (BXn.out) _ _
    have HZj : Hid (BoxS wj (C + 1) (startS 0 0)) := by show BoxS _ _ _; rw [hwj]; exact (BZn.out).only (set2 _ X _ _) (fun e => HXnG.out.2.1 e.symm)
    have HBj : Hid (Below C w wj) := BBn.out.trans (ONj.out.below (B := C) (fun j e => by have := HGC.out; have := HXG.out; omega) (by have := BBn.out.size; have := HC.out; omega))
    have hszj : w4.heap.size ≤ wj.heap.size := Nat.le_trans hszn ONj.out.size
    rw [← hwj]
    clear hwj x0 x1 xf0 xf1 g0 g1 g2 g3 g4 g5 gu2 gu3 gu4 gu5 BGn BXn BZn BBn hszn HG4 HX4 HZ4 HB4 
    have HRQ0 : Hid (R = if 16 < vj then none else (contI bj vj [] lj).bind fun z => finS ({ bareR (op : Int) 0 with items := z.1 }, z.2)) := by show _ = _; rw [HRB.out]; exact head_m q HNXj.out
    clear HRB q
    by_cases hlim : 16 < vj
    · have HN : Hid (R = none) := by show _ = _; rw [HRQ0.out, if_pos hlim]
      have e5 : decide ((16 : Int) < vj) = true := decide_eq_true (by omega)
      clear hlim
      obtain ⟨z0, z1, z2, z3, z4, z5, zun⟩ := HZj.out
      have zu0 := zun 0; have zu1 := zun 1; have zu2 := zun 2; have zu3 := zun 3; have zu4 := zun 4; have zu5 := zun 5
      have HBq := Lib.hid (HBj.out)
      clear zun
      go_wp2_with fail
      have HFz := put6 wj (C + 1) (.int .i64 0) (.int .i64 0) (.slice none 0 0) (.int .u64 0) (.int .i64 0) (.slice none 0 0)
      have HBf := HBq.out.trans (HFz.below (B := C) (fun j e => by omega) (by have h1 := HBq.out.size; have h2 := HC.out; omega))
      replace HBf := HBf.mono (show w.heap.size ≤ C by have h2 := HC.out; omega)
      exact bodyPost_ret (v := .tuple #[.agg #[.int .i64 0, .int .i64 0, .slice none 0 0, .int .u64 0, .int .i64 0, .slice none 0 0], .bool false]) (by simp [results, Try.results20, go_sem, z0, z1, z2, z3, z4, z5]) rfl (rr_none HN.out rfl HBf)
    have e5 : decide ((16 : Int) < vj) = false := decide_eq_false (by omega)
    have hvj : vj ≤ 16 := by omega
    have HRQ : Hid (R = (contI bj vj [] lj).bind fun z => finS ({ bareR (op : Int) 0 with items := z.1 }, z.2)) := by show _ = _; rw [HRQ0.out, if_neg hlim]
    clear hlim HRQ0
    obtain ⟨g0, g1, g2, g3, g4, g5, gun⟩ := HGj.out
    have gu2 := gun 2; have gu3 := gun 3; have gu4 := gun 4; have gu5 := gun 5
    clear gun
    go_upto_region 25 with fail
    obtain ⟨wk, hwk⟩ : ∃ q, q = (wj).setCell ⟨G, 4, none⟩ (.int .i64 0) := ⟨_, rfl⟩
    have ONk : Hid (Only (fun j => j = G ∨ j = X) wj wk) := by show Only _ _ _; rw [hwk]; exact (Only.refl (fun j => j = G ∨ j = X) wj).put (ad := ⟨G, 4, none⟩) (Or.inl rfl) (.int .i64 0)
    have HGk : Hid (BoxS wk G (({ op := (op : Int), err := 0, items := [], IA := none, ik := 0, version := 0, count := 0, numbers := [], NA := none, nk := 0 } : Res))) := by show BoxS _ _ _; rw [hwk]; exact (boxS_set (HGj.out)).2.2.2.1 0
    have HXk : Hid (Cel wk X (.slice Aj lj.length cj) (.bool bj)) := by show Cel _ _ _ _; rw [hwk]; exact cel_only (HXj.out) (one_put _ G 4 _) HXnG.out.1
    have HZk : Hid (BoxS wk (C + 1) (startS 0 0)) := by show BoxS _ _ _; rw [hwk]; exact (HZj.out).only (one_put _ G 4 _) (fun e => HXnG.out.2.2 e.symm)
    have HBk : Hid (Below C w wk) := HBj.out.trans (ONk.out.below (B := C) (fun j e => by have := HGC.out; have := HXG.out; omega) (by have := HBj.out.size; have := HC.out; omega))
    have hszk : wj.heap.size ≤ wk.heap.size := ONk.out.size
    rw [← hwk]
    clear hwk g0 g1 g2 g3 g4 g5 gu2 gu3 gu4 gu5 HGj HXj HZj HBj
    have HGK : Hid (G < wk.heap.size ∧ X < wk.heap.size) := by show _ ∧ _; exact ⟨HGk.out.lt, HXk.out.lt⟩
    obtain ⟨K0, hK0⟩ : ∃ q, q = wk.heap.size := ⟨_, rfl⟩
    have HK0 := Lib.hid hK0
    rw [← hK0] at HGK
    clear hK0
    go_wp2_with fail
    go_loopw [9] (fun i wr => ∃ (k : Nat) (ys : List Im) (IA : Option Addr) (ik : Nat) (lq : Bs) (Aq : Option Addr) (cq : Nat) (bq : Bool), k ≤ vj ∧ i = .int .u64 (k : Int) ∧ ys.length = k ∧ BoxS wr G (({ op := (op : Int), err := 0, items := ys, IA := IA, ik := ik, version := 0, count := 0, numbers := [], NA := none, nk := 0 } : Res)) ∧ ItO K0 wr IA ik ys ∧ Cel wr X (.slice Aq lq.length cq) (.bool bq) ∧ (∀ W, Below C w W → Arg W Aq lq cq) ∧ lq.length ≤ p.length ∧ contI bj vj [] lj = contI bq (vj - k) (ys.map (·.i)) lq ∧ (∀ y ∈ ys, (0 ≤ y.i.mark ∧ y.i.mark ≤ 2) ∧ y.i.value.length ≤ 1000000 ∧ y.i.version < big ∧ y.i.dead < big) ∧ BoxS wr (C + 1) (startS 0 0) ∧ Below C w wr ∧ K0 ≤ wr.heap.size) (fun i _ => vj - (intOf i).toNat)
    case atStart => exact ⟨0, [], none, 0, lj, Aj, cj, bj, Nat.zero_le _, rfl, rfl, HGk.out, ItO.nil _ _, HXk.out, HARGj.out, by omega, rfl, (fun y hy => by cases hy), HZk.out, HBk.out, by rw [HK0.out]; exact Nat.le_refl _⟩
    case round =>
      obtain ⟨k, ys, IA, ik, l0, A0, c0, b0, hk, rfl, hyl, a1, a2, a3, a4, hl0, a5, a6, a7, a8, a9⟩ := hrel
      obtain ⟨wo, rfl⟩ : ∃ q : World, q = wr := ⟨_, rfl⟩
      have HGo := Lib.hid a1; have HIo := Lib.hid a2; have HXo := Lib.hid a3; have HARGo : Hid (∀ W, Below C w W → Arg W A0 l0 c0) := a4; have HCo := Lib.hid a5; have HYo := Lib.hid a6; have HZo := Lib.hid a7; have HBo := Lib.hid a8; have HKo := Lib.hid a9
      clear a1 a2 a3 a4 a5 a6 a7 a8 a9 HGk HXk HZk HBk
      by_cases hlt : k < vj
      · have i1 : (k : Int) < vj := by omega
        have hkm : vj - k = (vj - (k + 1)) + 1 := by omega
        rw [hkm] at HCo
        have hk1 : k + 1 ≤ vj := by omega
        obtain ⟨m, hm⟩ : ∃ m, m = vj - (k + 1) := ⟨_, rfl⟩
        rw [← hm] at HCo
        have HMM := Lib.hid hm
        clear hm hkm hk
        obtain ⟨D, hD⟩ : ∃ D, D = wo.heap.size := ⟨_, rfl⟩
        obtain ⟨wD, hwD⟩ : ∃ wD, wD = wo.alloc (imO zeroM) := ⟨_, rfl⟩
        have bD : Below wo.heap.size wo wD := by rw [hwD]; exact alloc_below _ _
        have HDD : Hid (BoxI wD D zeroM) := by show BoxI _ _ _; rw [hwD, hD]; exact BoxI.new _ _
        have HGD := Lib.hid (HGo.out.below bD (Nat.le_refl _))
        have HXD := Lib.hid (HXo.out.below bD (Nat.le_refl _))
        have HZD := Lib.hid (HZo.out.below bD (Nat.le_refl _))
        have HID := Lib.hid (HIo.out.below bD (Nat.le_refl _))
        have HBD : Hid (Below C w wD) := HBo.out.trans (bD.mono (by have := HBo.out.size; have := HC.out; omega))
        have HDG : Hid (K0 ≤ D) := by show _ ≤ _; rw [hD]; exact HKo.out
        have HDN : Hid (D ≠ G ∧ D ≠ X ∧ D ≠ C + 1) := by show _ ∧ _ ∧ _; have := HGK.out; have := HDG.out; have := HGC.out; omega
        have HLD : Hid ((∀ a, IA = some a → a.block < D) ∧ (∀ y ∈ ys, ∀ a, y.A = some a → a.block < D)) := by
          show _ ∧ _; rw [hD]; exact ⟨fun a ha => (HIo.out.mi.base ha).2.1, fun y hy a ha => ((HIo.out.pay y hy).2.2 a ha).2.1⟩
        have HDW : Hid (D < wD.heap.size) := HDD.out.lt
        unfold imO zeroM zeroI at hwD
        simp only [List.length_nil] at hwD
        go_upto_region 29 with fail
        rw [← hD]
        first | rw [← hwD] | (rw [show (wo.alloc (.cells #[.int .i64 0, .slice none 0 0, .int .u64 0, .int .u64 0] 53)) = wD from hwD.symm])
        clear hwD hD bD HGo HXo HZo HIo HBo
        obtain ⟨x0, x1, _, _⟩ := HXD.out
        go_wp2_with fail
        refine (rnumber_any A0 l0 c0 b0 _ (HARGo.out _ HBD.out) (by omega)).mono ?_
        rintro e wna ⟨va, Aa, la, ca, ba, rfl, bn, ha, HNXa, hva, hla⟩
        have HARGa : Hid (∀ W, Below C w W → Arg W Aa la ca) := fun W h => ha W (HARGo.out W h)
        have hlpa : la.length ≤ p.length := by omega
        have BGn := Lib.hid (HGD.out.below bn (Nat.le_refl _))
        have BXn := Lib.hid (HXD.out.below bn (Nat.le_refl _))
        have BZn := Lib.hid (HZD.out.below bn (Nat.le_refl _))
        have BBn : Hid (Below C w wna) := HBD.out.trans (bn.mono (by have := HBD.out.size; have := HC.out; omega))
        have BDn := Lib.hid (HDD.out.below bn (Nat.le_refl _))
        have BIn := Lib.hid (HID.out.below bn (Nat.le_refl _))
        have hszn : wD.heap.size ≤ wna.heap.size := bn.size
        clear x0 x1
        obtain ⟨x0, x1, xf0, xf1⟩ := BXn.out
        obtain ⟨g0, g1, g2, g3, g4, g5, gun⟩ := BGn.out
        have gu2 := gun 2; have gu3 := gun 3; have gu4 := gun 4; have gu5 := gun 5
        obtain ⟨d0, d1, d2, d3, dun⟩ := BDn.out
        have du0 := dun 0; have du1 := dun 1; have du2 := dun 2; have du3 := dun 3
        clear dun
        clear bn ha gun
        have ndx := HDN.out.2.1; have nxd := fun e => HDN.out.2.1 (Eq.symm e); have ndg := HDN.out.1; have ngd := fun e => HDN.out.1 (Eq.symm e); have nxg := HXnG.out.1
        go_upto_region 31 with fail
        obtain ⟨wa, hwa⟩ : ∃ q, q = ((wna).setCell ⟨X, 0, none⟩ (.slice Aa la.length ca)).setCell ⟨X, 1, none⟩ (.bool ba) := ⟨_, rfl⟩
        have ONa : Hid (Only (fun j => j = G ∨ j = X ∨ j = D) wna wa) := by show Only _ _ _; rw [hwa]; exact ((Only.refl (fun j => j = G ∨ j = X ∨ j = D) wna).put (ad := ⟨X, 0, none⟩) (Or.inr (Or.inl rfl)) (.slice Aa la.length ca)).put (ad := ⟨X, 1, none⟩) (Or.inr (Or.inl rfl)) (.bool ba)
        have HGa : Hid (BoxS wa G (({ op := (op : Int), err := 0, items := ys, IA := IA, ik := ik, version := 0, count := 0, numbers := [], NA := none, nk := 0 } : Res))) := by show BoxS _ _ _; rw [hwa]; exact (BGn.out).only (set2 _ X _ _) (fun e => HXnG.out.1 e.symm)
        have HXa : Hid (Cel wa X (.slice Aa la.length ca) (.bool ba)) := by show Cel _ _ _ _; rw [hwa]; exact Cel.set (BXn.out) _ _
        have HZa : Hid (BoxS wa (C + 1) (startS 0 0)) := by show BoxS _ _ _; rw [hwa]; exact (BZn.out).only (set2 _ X _ _) (fun e => HXnG.out.2.1 e.symm)
        have HBa : Hid (Below C w wa) := BBn.out.trans (ONa.out.below (B := C) (fun j e => by have := HGC.out; have := HXG.out; have := HDG.out; have := HGK.out; omega) (by have := BBn.out.size; have := HC.out; omega))
        have HDa : Hid (BoxI wa D ((⟨⟨0, [], 0, 0⟩, none, 0⟩ : Im))) := by show BoxI _ _ _; rw [hwa]; exact (BDn.out).only (set2 _ X _ _) HDN.out.2.1
        have HIa := Lib.hid (BIn.out.other ONa.out (fun a ha e => by have h1 := (BIn.out.mi.base ha).1; have h2 := HLD.out.1 a ha; have := HGK.out; omega) (fun y hy a ha e => by have h1 := ((BIn.out.pay y hy).2.2 a ha).1; have h2 := HLD.out.2 y hy a ha; have := HGK.out; omega))
        clear BIn BDn d0 d1 d2 d3 du0 du1 du2 du3 ndx nxd ndg ngd nxg HDD HID
        have hsza : wD.heap.size ≤ wa.heap.size := Nat.le_trans hszn ONa.out.size
        rw [← hwa]
        clear hwa x0 x1 xf0 xf1 g0 g1 g2 g3 g4 g5 gu2 gu3 gu4 gu5 BGn BXn BZn BBn hszn HGD HXD HZD HBD HARGo
        by_cases hv2 : 2 < va
        · have HN : Hid (R = none) := by show _ = _; rw [HRQ.out, HCo.out, itm_big HNXa.out hv2]; rfl
          have e5 : decide ((2 : Int) < va) = true := decide_eq_true (by omega)
          clear hv2
          obtain ⟨z0, z1, z2, z3, z4, z5, zun⟩ := HZa.out
          have zu0 := zun 0; have zu1 := zun 1; have zu2 := zun 2; have zu3 := zun 3; have zu4 := zun 4; have zu5 := zun 5
          have HBq := Lib.hid (HBa.out)
          clear zun
          go_wp2_with fail
          have HFz := put6 wa (C + 1) (.int .i64 0) (.int .i64 0) (.slice none 0 0) (.int .u64 0) (.int .i64 0) (.slice none 0 0)
          have HBf := HBq.out.trans (HFz.below (B := C) (fun j e => by omega) (by have h1 := HBq.out.size; have h2 := HC.out; omega))
          replace HBf := HBf.mono (show w.heap.size ≤ C by have h2 := HC.out; omega)
          exact bodyPost_ret (v := .tuple #[.agg #[.int .i64 0, .int .i64 0, .slice none 0 0, .int .u64 0, .int .i64 0, .slice none 0 0], .bool false]) (by simp [results, Try.results20, go_sem, z0, z1, z2, z3, z4, z5]) rfl (rr_none HN.out rfl HBf)
        have e5 : decide ((2 : Int) < va) = false := decide_eq_false (by omega)
        have hva2 : va ≤ 2 := by omega
        clear hv2
        obtain ⟨d0, d1, d2, d3, dun⟩ := HDa.out
        have du0 := dun 0
        clear dun
        go_upto_region 34 with fail
        obtain ⟨wm, hwm⟩ : ∃ q, q = wa.setCell ⟨D, 0, none⟩ (.int .i64 (va : Int)) := ⟨_, rfl⟩
        have ONm : Hid (Only (fun j => j = D) wa wm) := by show Only _ _ _; rw [hwm]; exact one_put _ _ _ _
        have HGm := Lib.hid (HGa.out.only ONm.out (fun e => HDN.out.1 e.symm))
        have HXm := Lib.hid (cel_only HXa.out ONm.out (fun e => HDN.out.2.1 e.symm))
        have HZm := Lib.hid (HZa.out.only ONm.out (fun e => HDN.out.2.2 e.symm))
        have HDm : Hid (BoxI wm D ⟨⟨(va : Int), [], 0, 0⟩, none, 0⟩) := by show BoxI _ _ _; rw [hwm]; exact (boxI_set HDa.out).1 (va : Int)
        have HIm := Lib.hid (HIa.out.other ONm.out (fun a ha e => by have h2 := HLD.out.1 a ha; omega) (fun y hy a ha e => by have h2 := HLD.out.2 y hy a ha; omega))
        have HBm : Hid (Below C w wm) := HBa.out.trans (ONm.out.below (B := C) (fun j e => by have := HDG.out; have := HGK.out; have := HGC.out; omega) (by have := HBa.out.size; have := HC.out; omega))
        have hszm : wD.heap.size ≤ wm.heap.size := Nat.le_trans hsza ONm.out.size
        rw [← hwm]
        clear hwm d0 d1 d2 d3 du0 HGa HXa HZa HDa HIa HBa
        by_cases hv0 : va = 0
        · subst hv0
          obtain ⟨d0, d1, d2, d3, _⟩ := HDm.out
          simp only at d0 d1 d2 d3
          obtain ⟨g0, g1, g2, g3, g4, g5, gun⟩ := HGm.out
          have gu2 := gun 2
          simp only at g2
          clear gun
          have HPAY : Hid (Rb wm ((⟨⟨0, [], 0, 0⟩, none, 0⟩ : Im)).A ((⟨⟨0, [], 0, 0⟩, none, 0⟩ : Im)).i.value ∧ (((⟨⟨0, [], 0, 0⟩, none, 0⟩ : Im)).A = none → ((⟨⟨0, [], 0, 0⟩, none, 0⟩ : Im)).k = 0) ∧ ∀ a, ((⟨⟨0, [], 0, 0⟩, none, 0⟩ : Im)).A = some a → K0 ≤ a.block ∧ a.block < wm.heap.size ∧ ∀ b, IA = some b → a.block ≠ b.block) := ⟨Rb.nil _ _, fun _ => rfl, fun a e => by cases e⟩
          have hKw : K0 ≤ wm.heap.size := by have := HDW.out; have := HDG.out; omega
          go_wp2_with (at_builtin; (refine wpList_item rfl _ _ rfl hyl rfl HIm.out (⟨⟨0, [], 0, 0⟩, none, 0⟩ : Im) rfl rfl HPAY.out (by omega) hKw rfl ?_))
          intro IA2 ik2 wI ys2 HYS HI2 bI kI
          have HG2 := Lib.hid (HGm.out.kept (bI.block G HGK.out.1))
          have HX2 := Lib.hid (HXm.out.kept (bI.block X HGK.out.2))
          have HZ2 := Lib.hid (HZm.out.kept (bI.block (C + 1) (by have := HGK.out; have := HGC.out; omega)))
          have HB2 : Hid (Below C w wI) := HBm.out.trans (bI.mono (by have := HGK.out; have := HGC.out; omega))
          have HI3 := Lib.hid HI2
          have hzI := bI.size
          have O3 := Lib.hid (one_put wI G 2 (.slice IA2 ys2.length ik2))
          have HYL : Hid (ys2.length = k + 1) := by show _ = _; rw [HYS.out, List.length_append, hyl]; rfl
          have HG3 : Hid (BoxS (wI.setCell ⟨G, 2, none⟩ (.slice IA2 ys2.length ik2)) G (({ op := (op : Int), err := 0, items := ys2, IA := IA2, ik := ik2, version := 0, count := 0, numbers := [], NA := none, nk := 0 } : Res))) := (boxS_set HG2.out).2.1 IA2 ys2 ik2 _ rfl
          have HX3 := Lib.hid (cel_only HX2.out O3.out HXnG.out.1)
          have HZ3 := Lib.hid (HZ2.out.only O3.out (fun e => HXnG.out.2.2 e.symm))
          have HI4 := Lib.hid (HI3.out.only O3.out (fun j hj _ e => by have := HGK.out; omega))
          have HB3 : Hid (Below C w (wI.setCell ⟨G, 2, none⟩ (.slice IA2 ys2.length ik2))) := HB2.out.setCell (by have := HGC.out; simp; omega) _
          obtain ⟨_, _, p2, _, _, _, pun⟩ := HG2.out
          have pu2 := pun 2
          clear HI2 bI kI pun g0 g1 g2 g3 g4 g5 gu2 d0 d1 d2 d3
          go_wp2_with fail
          go_roundw
          case rel => exact ⟨k + 1, ys2, IA2, ik2, la, Aa, ca, ba, hk1, by go_num, HYL.out, HG3.out, HI4.out, HX3.out, HARGa.out, by omega, by rw [← HMM.out, HCo.out, HYS.out, List.map_append]; exact itm_zero HNXa.out, (fun y hy => by rw [HYS.out] at hy; rcases List.mem_append.1 hy with hy | hy; exact HYo.out y hy; rw [List.mem_singleton.1 hy]; exact ⟨⟨by simp, by simp⟩, by simp, by unfold big; simp, by unfold big; simp⟩), HZ3.out, HB3.out, by simp; omega⟩
          case measure => simp [intOf]; omega
        have e6 : ((va : Int) != 0) = true := by rw [bne_iff_ne]; omega
        obtain ⟨x0, x1, _, _⟩ := HXm.out
        go_wp2_with fail
        refine (rnumber_any Aa la ca ba _ (HARGa.out _ HBm.out) (by omega)).mono ?_
        rintro e wnf ⟨vf, Af, lf, cf, bf, rfl, bn, ha, HNXf, hvf, hlf⟩
        have HARGf : Hid (∀ W, Below C w W → Arg W Af lf cf) := fun W h => ha W (HARGa.out W h)
        have hlpf : lf.length ≤ p.length := by omega
        have BGn := Lib.hid (HGm.out.below bn (Nat.le_refl _))
        have BXn := Lib.hid (HXm.out.below bn (Nat.le_refl _))
        have BZn := Lib.hid (HZm.out.below bn (Nat.le_refl _))
        have BBn : Hid (Below C w wnf) := HBm.out.trans (bn.mono (by have := HBm.out.size; have := HC.out; omega))
        have BDn := Lib.hid (HDm.out.below bn (Nat.le_refl _))
        have BIn := Lib.hid (HIm.out.below bn (Nat.le_refl _))
        have hszn : wm.heap.size ≤ wnf.heap.size := bn.size
        clear x0 x1
        obtain ⟨x0, x1, xf0, xf1⟩ := BXn.out
        obtain ⟨g0, g1, g2, g3, g4, g5, gun⟩ := BGn.out
        have gu2 := gun 2; have gu3 := gun 3; have gu4 := gun 4; have gu5 := gun 5
        obtain ⟨d0, d1, d2, d3, dun⟩ := BDn.out
        have du0 := dun 0; have du1 := dun 1; have du2 := dun 2; have du3 := dun 3
        clear dun
        clear bn ha gun
        have ndx := HDN.out.2.1; have nxd := fun e => HDN.out.2.1 (Eq.symm e); have ndg := HDN.out.1; have ngd := fun e => HDN.out.1 (Eq.symm e); have nxg := HXnG.out.1
        go_upto_region 36 with fail
        obtain ⟨wf, hwf⟩ : ∃ q, q = (((wnf).setCell ⟨D, 2, none⟩ (.int .u64 (vf : Int))).setCell ⟨X, 0, none⟩ (.slice Af lf.length cf)).setCell ⟨X, 1, none⟩ (.bool bf) := ⟨_, rfl⟩
        have ONf : Hid (Only (fun j => j = G ∨ j = X ∨ j = D) wnf wf) := by show Only _ _ _; rw [hwf]; exact (((Only.refl (fun j => j = G ∨ j = X ∨ j = D) wnf).put (ad := ⟨D, 2, none⟩) (Or.inr (Or.inr rfl)) (.int .u64 (vf : Int))).put (ad := ⟨X, 0, none⟩) (Or.inr (Or.inl rfl)) (.slice Af lf.length cf)).put (ad := ⟨X, 1, none⟩) (Or.inr (Or.inl rfl)) (.bool bf)
        have HGf : Hid (BoxS wf G (({ op := (op : Int), err := 0, items := ys, IA := IA, ik := ik, version := 0, count := 0, numbers := [], NA := none, nk := 0 } : Res))) := by show BoxS _ _ _; rw [hwf]; exact ((BGn.out).only (one_put _ D 2 _) (fun e => HDN.out.1 e.symm)).only (set2 _ X _ _) (fun e => HXnG.out.1 e.symm)
        have HXf : Hid (Cel wf X (.slice Af lf.length cf) (.bool bf)) := by show Cel _ _ _ _; rw [hwf]; exact Cel.set (cel_only (BXn.out) (one_put _ D 2 _) (fun e => HDN.out.2.1 e.symm)) _ _
        have HZf : Hid (BoxS wf (C + 1) (startS 0 0)) := by show BoxS _ _ _; rw [hwf]; exact ((BZn.out).only (one_put _ D 2 _) (fun e => HDN.out.2.2 e.symm)).only (set2 _ X _ _) (fun e => HXnG.out.2.1 e.symm)
        have HBf : Hid (Below C w wf) := BBn.out.trans (ONf.out.below (B := C) (fun j e => by have := HGC.out; have := HXG.out; have := HDG.out; have := HGK.out; omega) (by have := BBn.out.size; have := HC.out; omega))
        have HDf : Hid (BoxI wf D ((⟨⟨(va : Int), [], vf, 0⟩, none, 0⟩ : Im))) := by show BoxI _ _ _; rw [hwf]; exact ((boxI_set (BDn.out)).2.2.1 vf).only (set2 _ X _ _) HDN.out.2.1
        have HIf := Lib.hid (BIn.out.other ONf.out (fun a ha e => by have h1 := (BIn.out.mi.base ha).1; have h2 := HLD.out.1 a ha; have := HGK.out; omega) (fun y hy a ha e => by have h1 := ((BIn.out.pay y hy).2.2 a ha).1; have h2 := HLD.out.2 y hy a ha; have := HGK.out; omega))
        clear BIn BDn d0 d1 d2 d3 du0 du1 du2 du3 ndx nxd ndg ngd nxg HDm HIm
        have hszf : wm.heap.size ≤ wf.heap.size := Nat.le_trans hszn ONf.out.size
        rw [← hwf]
        clear hwf x0 x1 xf0 xf1 g0 g1 g2 g3 g4 g5 gu2 gu3 gu4 gu5 BGn BXn BZn BBn hszn HGm HXm HZm HBm HARGa
        obtain ⟨x0, x1, _, _⟩ := HXf.out
        go_wp2_with fail
        refine (rnumber_any Af lf cf bf _ (HARGf.out _ HBf.out) (by omega)).mono ?_
        rintro e wng ⟨vg, Ag, lg, cg, bg, rfl, bn, ha, HNXg, hvg, hlg⟩
        have HARGg : Hid (∀ W, Below C w W → Arg W Ag lg cg) := fun W h => ha W (HARGf.out W h)
        have hlpg : lg.length ≤ p.length := by omega
        have BGn := Lib.hid (HGf.out.below bn (Nat.le_refl _))
        have BXn := Lib.hid (HXf.out.below bn (Nat.le_refl _))
        have BZn := Lib.hid (HZf.out.below bn (Nat.le_refl _))
        have BBn : Hid (Below C w wng) := HBf.out.trans (bn.mono (by have := HBf.out.size; have := HC.out; omega))
        have BDn := Lib.hid (HDf.out.below bn (Nat.le_refl _))
        have BIn := Lib.hid (HIf.out.below bn (Nat.le_refl _))
        have hszn : wf.heap.size ≤ wng.heap.size := bn.size
        clear x0 x1
        obtain ⟨x0, x1, xf0, xf1⟩ := BXn.out
        obtain ⟨g0, g1, g2, g3, g4, g5, gun⟩ := BGn.out
        have gu2 := gun 2; have gu3 := gun 3; have gu4 := gun 4; have gu5 := gun 5
        obtain ⟨d0, d1, d2, d3, dun⟩ := BDn.out
        have du0 := dun 0; have du1 := dun 1; have du2 := dun 2; have du3 := dun 3
        clear dun
        clear bn ha gun
        have ndx := HDN.out.2.1; have nxd := fun e => HDN.out.2.1 (Eq.symm e); have ndg := HDN.out.1; have ngd := fun e => HDN.out.1 (Eq.symm e); have nxg := HXnG.out.1
        go_upto_region 37 with fail
        obtain ⟨wg, hwg⟩ : ∃ q, q = ((wng).setCell ⟨X, 0, none⟩ (.slice Ag lg.length cg)).setCell ⟨X, 1, none⟩ (.bool bg) := ⟨_, rfl⟩
        have ONg : Hid (Only (fun j => j = G ∨ j = X ∨ j = D) wng wg) := by show Only _ _ _; rw [hwg]; exact ((Only.refl (fun j => j = G ∨ j = X ∨ j = D) wng).put (ad := ⟨X, 0, none⟩) (Or.inr (Or.inl rfl)) (.slice Ag lg.length cg)).put (ad := ⟨X, 1, none⟩) (Or.inr (Or.inl rfl)) (.bool bg)
        have HGg : Hid (BoxS wg G (({ op := (op : Int), err := 0, items := ys, IA := IA, ik := ik, version := 0, count := 0, numbers := [], NA := none, nk := 0 } : Res))) := by show BoxS _ _ _; rw [hwg]; exact (BGn.out).only (set2 _ X _ _) (fun e => HXnG.out.1 e.symm)
        have HXg : Hid (Cel wg X (.slice Ag lg.length cg) (.bool bg)) := by show Cel _ _ _ _; rw [hwg]; exact Cel.set (BXn.out) _ _
        have HZg : Hid (BoxS wg (C + 1) (startS 0 0)) := by show BoxS _ _ _; rw [hwg]; exact (BZn.out).only (set2 _ X _ _) (fun e => HXnG.out.2.1 e.symm)
        have HBg : Hid (Below C w wg) := BBn.out.trans (ONg.out.below (B := C) (fun j e => by have := HGC.out; have := HXG.out; have := HDG.out; have := HGK.out; omega) (by have := BBn.out.size; have := HC.out; omega))
        have HDg : Hid (BoxI wg D ((⟨⟨(va : Int), [], vf, 0⟩, none, 0⟩ : Im))) := by show BoxI _ _ _; rw [hwg]; exact (BDn.out).only (set2 _ X _ _) HDN.out.2.1
        have HIg := Lib.hid (BIn.out.other ONg.out (fun a ha e => by have h1 := (BIn.out.mi.base ha).1; have h2 := HLD.out.1 a ha; have := HGK.out; omega) (fun y hy a ha e => by have h1 := ((BIn.out.pay y hy).2.2 a ha).1; have h2 := HLD.out.2 y hy a ha; have := HGK.out; omega))
        clear BIn BDn d0 d1 d2 d3 du0 du1 du2 du3 ndx nxd ndg ngd nxg HDf HIf
        have hszg : wf.heap.size ≤ wg.heap.size := Nat.le_trans hszn ONg.out.size
        rw [← hwg]
        clear hwg x0 x1 xf0 xf1 g0 g1 g2 g3 g4 g5 gu2 gu3 gu4 gu5 BGn BXn BZn BBn hszn HGf HXf HZf HBf HARGf
        obtain ⟨d0, d1, d2, d3, dun⟩ := HDg.out
        have du3 := dun 3
        clear dun
        go_upto_region 38 with fail
        obtain ⟨wt, hwt⟩ : ∃ q, q = wg.setCell ⟨D, 3, none⟩ (.int .u64 (vg : Int)) := ⟨_, rfl⟩
        have ONt : Hid (Only (fun j => j = D) wg wt) := by show Only _ _ _; rw [hwt]; exact one_put _ _ _ _
        have HGt := Lib.hid (HGg.out.only ONt.out (fun e => HDN.out.1 e.symm))
        have HXt := Lib.hid (cel_only HXg.out ONt.out (fun e => HDN.out.2.1 e.symm))
        have HZt := Lib.hid (HZg.out.only ONt.out (fun e => HDN.out.2.2 e.symm))
        have HDt : Hid (BoxI wt D ⟨⟨(va : Int), [], vf, vg⟩, none, 0⟩) := by show BoxI _ _ _; rw [hwt]; exact (boxI_set HDg.out).2.2.2 vg
        have HIt := Lib.hid (HIg.out.other ONt.out (fun a ha e => by have h2 := HLD.out.1 a ha; omega) (fun y hy a ha e => by have h2 := HLD.out.2 y hy a ha; omega))
        have HBt : Hid (Below C w wt) := HBg.out.trans (ONt.out.below (B := C) (fun j e => by have := HDG.out; have := HGK.out; have := HGC.out; omega) (by have := HBg.out.size; have := HC.out; omega))
        have hszt : wD.heap.size ≤ wt.heap.size := by have := ONt.out.size; omega
        rw [← hwt]
        clear hwt d0 d1 d2 d3 du3 HGg HXg HZg HDg HIg HBg
        obtain ⟨x0, x1, _, _⟩ := HXt.out
        go_wp2_with fail
        refine (rbytes_any Ag lg cg bg _ (HARGg.out _ HBt.out) (by omega)).mono ?_
        rintro e wnh ⟨pvh, sh, Ah, lh, ch, bh, rfl, hown, bn, ha, HNXh, hvh, hlh⟩
        obtain ⟨PAh, pch, sp⟩ := own_shape hown
        obtain rfl := sp.val
        have SPh := Lib.hid sp
        clear sp hown
        have HARGh : Hid (∀ W, Below C w W → Arg W Ah lh ch) := fun W h => ha W (HARGg.out W h)
        have hlph : lh.length ≤ p.length := by omega
        have BGn := Lib.hid (HGt.out.below bn (Nat.le_refl _))
        have BXn := Lib.hid (HXt.out.below bn (Nat.le_refl _))
        have BZn := Lib.hid (HZt.out.below bn (Nat.le_refl _))
        have BBn : Hid (Below C w wnh) := HBt.out.trans (bn.mono (by have := HBt.out.size; have := HC.out; omega))
        have BDn := Lib.hid (HDt.out.below bn (Nat.le_refl _))
        have BIn := Lib.hid (HIt.out.below bn (Nat.le_refl _))
        have hszn : wt.heap.size ≤ wnh.heap.size := bn.size
        clear x0 x1
        obtain ⟨x0, x1, xf0, xf1⟩ := BXn.out
        obtain ⟨g0, g1, g2, g3, g4, g5, gun⟩ := BGn.out
        have gu2 := gun 2; have gu3 := gun 3; have gu4 := gun 4; have gu5 := gun 5
        obtain ⟨d0, d1, d2, d3, dun⟩ := BDn.out
        have du0 := dun 0; have du1 := dun 1; have du2 := dun 2; have du3 := dun 3
        clear dun
        clear bn ha gun
        have ndx := HDN.out.2.1; have nxd := fun e => HDN.out.2.1 (Eq.symm e); have ndg := HDN.out.1; have ngd := fun e => HDN.out.1 (Eq.symm e); have nxg := HXnG.out.1
        go_upto_region 39 with fail
        obtain ⟨wh, hwh⟩ : ∃ q, q = (((wnh).setCell ⟨D, 1, none⟩ (.slice PAh sh.length pch)).setCell ⟨X, 0, none⟩ (.slice Ah lh.length ch)).setCell ⟨X, 1, none⟩ (.bool bh) := ⟨_, rfl⟩
        have ONh : Hid (Only (fun j => j = G ∨ j = X ∨ j = D) wnh wh) := by show Only _ _ _; rw [hwh]; exact (((Only.refl (fun j => j = G ∨ j = X ∨ j = D) wnh).put (ad := ⟨D, 1, none⟩) (Or.inr (Or.inr rfl)) (.slice PAh sh.length pch)).put (ad := ⟨X, 0, none⟩) (Or.inr (Or.inl rfl)) (.slice Ah lh.length ch)).put (ad := ⟨X, 1, none⟩) (Or.inr (Or.inl rfl)) (.bool bh)
        have HGh : Hid (BoxS wh G (({ op := (op : Int), err := 0, items := ys, IA := IA, ik := ik, version := 0, count := 0, numbers := [], NA := none, nk := 0 } : Res))) := by show BoxS _ _ _; rw [hwh]; exact ((BGn.out).only (one_put _ D 1 _) (fun e => HDN.out.1 e.symm)).only (set2 _ X _ _) (fun e => HXnG.out.1 e.symm)
        have HXh : Hid (Cel wh X (.slice Ah lh.length ch) (.bool bh)) := by show Cel _ _ _ _; rw [hwh]; exact Cel.set (cel_only (BXn.out) (one_put _ D 1 _) (fun e => HDN.out.2.1 e.symm)) _ _
        have HZh : Hid (BoxS wh (C + 1) (startS 0 0)) := by show BoxS _ _ _; rw [hwh]; exact ((BZn.out).only (one_put _ D 1 _) (fun e => HDN.out.2.2 e.symm)).only (set2 _ X _ _) (fun e => HXnG.out.2.1 e.symm)
        have HBh : Hid (Below C w wh) := BBn.out.trans (ONh.out.below (B := C) (fun j e => by have := HGC.out; have := HXG.out; have := HDG.out; have := HGK.out; omega) (by have := BBn.out.size; have := HC.out; omega))
        have HDh : Hid (BoxI wh D ((⟨⟨(va : Int), sh, vf, vg⟩, PAh, pch⟩ : Im))) := by show BoxI _ _ _; rw [hwh]; exact ((boxI_set (BDn.out)).2.1 PAh sh pch).only (set2 _ X _ _) HDN.out.2.1
        have HIh := Lib.hid (BIn.out.other ONh.out (fun a ha e => by have h1 := (BIn.out.mi.base ha).1; have h2 := HLD.out.1 a ha; have := HGK.out; omega) (fun y hy a ha e => by have h1 := ((BIn.out.pay y hy).2.2 a ha).1; have h2 := HLD.out.2 y hy a ha; have := HGK.out; omega))
        clear BIn BDn d0 d1 d2 d3 du0 du1 du2 du3 ndx nxd ndg ngd nxg HDt HIt
        have hszh : wt.heap.size ≤ wh.heap.size := Nat.le_trans hszn ONh.out.size
        rw [← hwh]
        clear hwh x0 x1 xf0 xf1 g0 g1 g2 g3 g4 g5 gu2 gu3 gu4 gu5 BGn BXn BZn BBn hszn HGt HXt HZt HBt HARGg
        have HPB : Hid (∀ a, PAh = some a → wt.heap.size ≤ a.block ∧ a.block < wnh.heap.size) := fun a ha => ⟨(SPh.out.base a ha).1, (SPh.out.base a ha).2⟩
        have HPR : Hid (Rb wh PAh sh) := rb_only SPh.out.rd ONh.out (fun a ha e => by have h1 := (HPB.out a ha).1; have := HDW.out; have := HDG.out; have := HGK.out; omega)
        have HPS : Hid (wnh.heap.size ≤ wh.heap.size) := ONh.out.size
        obtain ⟨d0, d1, d2, d3, _⟩ := HDh.out
        simp only at d0 d1 d2 d3
        obtain ⟨g0, g1, g2, g3, g4, g5, gun⟩ := HGh.out
        have gu2 := gun 2
        simp only at g2
        clear gun
        have HPAY : Hid (Rb wh ((⟨⟨(va : Int), sh, vf, vg⟩, PAh, pch⟩ : Im)).A ((⟨⟨(va : Int), sh, vf, vg⟩, PAh, pch⟩ : Im)).i.value ∧ (((⟨⟨(va : Int), sh, vf, vg⟩, PAh, pch⟩ : Im)).A = none → ((⟨⟨(va : Int), sh, vf, vg⟩, PAh, pch⟩ : Im)).k = 0) ∧ ∀ a, ((⟨⟨(va : Int), sh, vf, vg⟩, PAh, pch⟩ : Im)).A = some a → K0 ≤ a.block ∧ a.block < wh.heap.size ∧ ∀ b, IA = some b → a.block ≠ b.block) := ⟨HPR.out, SPh.out.non, fun a ha => by have h1 := HPB.out a ha; have h2 := HPS.out; have h3 := HDW.out; have h4 := HDG.out; exact ⟨by omega, by omega, fun b hb e => by have := HLD.out.1 b hb; omega⟩⟩
        have hKw : K0 ≤ wh.heap.size := by have := HDW.out; have := HDG.out; omega
        go_wp2_with (at_builtin; (refine wpList_item rfl _ _ rfl hyl rfl HIh.out (⟨⟨(va : Int), sh, vf, vg⟩, PAh, pch⟩ : Im) rfl rfl HPAY.out (by omega) hKw rfl ?_))
        intro IA2 ik2 wI ys2 HYS HI2 bI kI
        have HG2 := Lib.hid (HGh.out.kept (bI.block G HGK.out.1))
        have HX2 := Lib.hid (HXh.out.kept (bI.block X HGK.out.2))
        have HZ2 := Lib.hid (HZh.out.kept (bI.block (C + 1) (by have := HGK.out; have := HGC.out; omega)))
        have HB2 : Hid (Below C w wI) := HBh.out.trans (bI.mono (by have := HGK.out; have := HGC.out; omega))
        have HI3 := Lib.hid HI2
        have hzI := bI.size
        have O3 := Lib.hid (one_put wI G 2 (.slice IA2 ys2.length ik2))
        have HYL : Hid (ys2.length = k + 1) := by show _ = _; rw [HYS.out, List.length_append, hyl]; rfl
        have HG3 : Hid (BoxS (wI.setCell ⟨G, 2, none⟩ (.slice IA2 ys2.length ik2)) G (({ op := (op : Int), err := 0, items := ys2, IA := IA2, ik := ik2, version := 0, count := 0, numbers := [], NA := none, nk := 0 } : Res))) := (boxS_set HG2.out).2.1 IA2 ys2 ik2 _ rfl
        have HX3 := Lib.hid (cel_only HX2.out O3.out HXnG.out.1)
        have HZ3 := Lib.hid (HZ2.out.only O3.out (fun e => HXnG.out.2.2 e.symm))
        have HI4 := Lib.hid (HI3.out.only O3.out (fun j hj _ e => by have := HGK.out; omega))
        have HB3 : Hid (Below C w (wI.setCell ⟨G, 2, none⟩ (.slice IA2 ys2.length ik2))) := HB2.out.setCell (by have := HGC.out; simp; omega) _
        obtain ⟨_, _, p2, _, _, _, pun⟩ := HG2.out
        have pu2 := pun 2
        clear HI2 bI kI pun g0 g1 g2 g3 g4 g5 gu2 d0 d1 d2 d3
        go_wp2_with fail
        go_roundw
        case rel => exact ⟨k + 1, ys2, IA2, ik2, lh, Ah, ch, bh, hk1, by go_num, HYL.out, HG3.out, HI4.out, HX3.out, HARGh.out, by omega, by rw [← HMM.out, HCo.out, HYS.out, List.map_append]; exact itm_full HNXa.out hva2 hv0 HNXf.out HNXg.out HNXh.out, (fun y hy => by rw [HYS.out] at hy; rcases List.mem_append.1 hy with hy | hy; exact HYo.out y hy; rw [List.mem_singleton.1 hy]; exact ⟨⟨by simp, by simp; omega⟩, by simp; omega, hvf, hvg⟩), HZ3.out, HB3.out, by simp; omega⟩
        case measure => simp [intOf]; omega
      · obtain rfl : vj = k := by omega
        have hnn : ¬ ((vj : Nat) : Int) < vj := by omega
        have HRD : Hid (R = if b0 then none else finS (({ op := (op : Int), err := 0, items := ys, IA := IA, ik := ik, version := 0, count := 0, numbers := [], NA := none, nk := 0 } : Res).r, l0)) := by
          show _ = _; rw [HRQ.out, HCo.out, Nat.sub_self, contI_end]; cases b0 <;> rfl
        have HGT : Hid (GotS (C + 2) wo (({ op := (op : Int), err := 0, items := ys, IA := IA, ik := ik, version := 0, count := 0, numbers := [], NA := none, nk := 0 } : Res))) := ⟨⟨ri_mine HIo.out.mi, HIo.out.mi.non, (fun y hy => (HIo.out.pay y hy).1), (fun y hy => (HIo.out.pay y hy).2.1), RN.nil _ _, fun _ => rfl⟩, bnd_got (n := 0) ho15 (by omega) (by omega) (by omega) (by unfold big; omega) (by omega) (by simp) HYo.out (fun n hn => by cases hn) _ _ _ _, fun a ha => ⟨by have := (HIo.out.mi.base ha).1; have := HGK.out; have := HGC.out; omega, (HIo.out.mi.base ha).2.1⟩, (fun a e => by cases e), fun y hy a ha => ⟨by have := ((HIo.out.pay y hy).2.2 a ha).1; have := HGK.out; have := HGC.out; omega, ((HIo.out.pay y hy).2.2 a ha).2.1⟩⟩
        clear HIo HYo HCo hyl HRQ
        go_wp2_with fail
        go_loopw [12] (fun i wr => i = .int .u64 0 ∧ BoxS wr G (({ op := (op : Int), err := 0, items := ys, IA := IA, ik := ik, version := 0, count := 0, numbers := [], NA := none, nk := 0 } : Res)) ∧ Cel wr X (.slice A0 l0.length c0) (.bool b0) ∧ BoxS wr (C + 1) (startS 0 0) ∧ Below C w wr ∧ wr = wo) (fun _ _ => 0)
        case atStart => exact ⟨rfl, HGo.out, HXo.out, HZo.out, HBo.out, rfl⟩
        case round =>
          obtain ⟨rfl, a1, a2, a3, a4, a5⟩ := hrel
          obtain ⟨wq2, rfl⟩ : ∃ q : World, q = wr := ⟨_, rfl⟩
          have HGq2 := Lib.hid a1; have HXq2 := Lib.hid a2; have HZq2 := Lib.hid a3; have HBq2 := Lib.hid a4; have HWq2 := Lib.hid a5
          clear a1 a2 a3 a4 a5 HGo HXo HZo HBo
          have HGT2 : Hid (GotS (C + 2) wq2 (({ op := (op : Int), err := 0, items := ys, IA := IA, ik := ik, version := 0, count := 0, numbers := [], NA := none, nk := 0 } : Res))) := by show GotS _ _ _; rw [HWq2.out]; exact HGT.out
          obtain ⟨x0, x1, _, _⟩ := HXq2.out
          cases b0
          rotate_left
          · have HN : Hid (R = none) := by show _ = _; rw [HRD.out]; rfl
            obtain ⟨z0, z1, z2, z3, z4, z5, zun⟩ := HZq2.out
            have zu0 := zun 0; have zu1 := zun 1; have zu2 := zun 2; have zu3 := zun 3; have zu4 := zun 4; have zu5 := zun 5
            have HBq := Lib.hid (HBq2.out)
            clear zun
            go_wp2_with fail
            have HFz := put6 wq2 (C + 1) (.int .i64 0) (.int .i64 0) (.slice none 0 0) (.int .u64 0) (.int .i64 0) (.slice none 0 0)
            have HBf := HBq.out.trans (HFz.below (B := C) (fun j e => by omega) (by have h1 := HBq.out.size; have h2 := HC.out; omega))
            replace HBf := HBf.mono (show w.heap.size ≤ C by have h2 := HC.out; omega)
            exact bodyPost_ret (v := .tuple #[.agg #[.int .i64 0, .int .i64 0, .slice none 0 0, .int .u64 0, .int .i64 0, .slice none 0 0], .bool false]) (by simp [results, Try.results20, go_sem, z0, z1, z2, z3, z4, z5]) rfl (rr_none HN.out rfl HBf)
          by_cases hl0 : 0 < l0.length
          · have HN : Hid (R = none) := by
              show _ = _; rw [HRD.out]; unfold finS; rw [if_neg (by simp), if_neg (fun h => by have := h.1; simp only at this; rw [this] at hl0; simp at hl0)]
            have hl1 : (0 : Int) < l0.length := by omega
            have hln : l0 ≠ [] := fun e => by rw [e] at hl0; simp at hl0
            clear hl0
            obtain ⟨z0, z1, z2, z3, z4, z5, zun⟩ := HZq2.out
            have zu0 := zun 0; have zu1 := zun 1; have zu2 := zun 2; have zu3 := zun 3; have zu4 := zun 4; have zu5 := zun 5
            have HBq := Lib.hid (HBq2.out)
            clear zun
            go_wp2_with fail
            have HFz := put6 wq2 (C + 1) (.int .i64 0) (.int .i64 0) (.slice none 0 0) (.int .u64 0) (.int .i64 0) (.slice none 0 0)
            have HBf := HBq.out.trans (HFz.below (B := C) (fun j e => by omega) (by have h1 := HBq.out.size; have h2 := HC.out; omega))
            replace HBf := HBf.mono (show w.heap.size ≤ C by have h2 := HC.out; omega)
            exact bodyPost_ret (v := .tuple #[.agg #[.int .i64 0, .int .i64 0, .slice none 0 0, .int .u64 0, .int .i64 0, .slice none 0 0], .bool false]) (by simp [results, Try.results20, go_sem, z0, z1, z2, z3, z4, z5]) rfl (rr_none HN.out rfl HBf)
          have hl1 : ¬ (0 : Int) < l0.length := by omega
          have hle : l0 = [] := List.eq_nil_of_length_eq_zero (by omega)
          have HRD2 : Hid (R = if validS (({ op := (op : Int), err := 0, items := ys, IA := IA, ik := ik, version := 0, count := 0, numbers := [], NA := none, nk := 0 } : Res)).r = true then some (({ op := (op : Int), err := 0, items := ys, IA := IA, ik := ik, version := 0, count := 0, numbers := [], NA := none, nk := 0 } : Res)).r else none) := by
            show _ = _; rw [HRD.out, hle]; unfold finS; simp
          clear HRD
          clear hl0 hl1
          subst hle
          simp only [List.length_nil] at x0
          have HV := Lib.hid (Sv.rvalid_any (({ op := (op : Int), err := 0, items := ys, IA := IA, ik := ik, version := 0, count := 0, numbers := [], NA := none, nk := 0 } : Res)) wq2 HGT2.out.rc HGT2.out.bnd)
          generalize validS (({ op := (op : Int), err := 0, items := ys, IA := IA, ik := ik, version := 0, count := 0, numbers := [], NA := none, nk := 0 } : Res)).r = vb at *
          unfold resV at HV
          obtain ⟨y0, y1, y2, y3, y4, y5, _⟩ := HGq2.out
          try simp only [List.length_nil, Int.natCast_zero] at HV y0 y1 y2 y3 y4 y5
          go_wp2_with fail
          with_reducible refine HV.out.mono ?_
          rintro e wv ⟨rfl, bv⟩
          have BOv := Lib.hid (HGq2.out.below bv (Nat.le_refl _))
          have GOv := Lib.hid (HGT2.out.below bv (Nat.le_refl _))
          have BZv := Lib.hid ((HZq2.out).below bv (Nat.le_refl _))
          have HBv : Hid (Below C w wv) := (HBq2.out).trans (bv.mono (by have := (HBq2.out).size; have := HC.out; omega))
          clear bv y0 y1 y2 y3 y4 y5 x0 x1
          cases vb
          · have HN : Hid (R = none) := by show _ = _; rw [HRD2.out]; rfl
            obtain ⟨z0, z1, z2, z3, z4, z5, zun⟩ := BZv.out
            have zu0 := zun 0; have zu1 := zun 1; have zu2 := zun 2; have zu3 := zun 3; have zu4 := zun 4; have zu5 := zun 5
            have HBq := Lib.hid (HBv.out)
            clear zun
            go_wp2_with fail
            have HFz := put6 wv (C + 1) (.int .i64 0) (.int .i64 0) (.slice none 0 0) (.int .u64 0) (.int .i64 0) (.slice none 0 0)
            have HBf := HBq.out.trans (HFz.below (B := C) (fun j e => by omega) (by have h1 := HBq.out.size; have h2 := HC.out; omega))
            replace HBf := HBf.mono (show w.heap.size ≤ C by have h2 := HC.out; omega)
            exact bodyPost_ret (v := .tuple #[.agg #[.int .i64 0, .int .i64 0, .slice none 0 0, .int .u64 0, .int .i64 0, .slice none 0 0], .bool false]) (by simp [results, Try.results20, go_sem, z0, z1, z2, z3, z4, z5]) rfl (rr_none HN.out rfl HBf)
          obtain ⟨y0, y1, y2, y3, y4, y5, _⟩ := BOv.out
          obtain ⟨z0, z1, z2, z3, z4, z5, zun⟩ := BZv.out
          have zu0 := zun 0; have zu1 := zun 1; have zu2 := zun 2; have zu3 := zun 3; have zu4 := zun 4; have zu5 := zun 5
          clear zun
          have HSM : Hid (R = some (({ op := (op : Int), err := 0, items := ys, IA := IA, ik := ik, version := 0, count := 0, numbers := [], NA := none, nk := 0 } : Res)).r) := by show _ = _; rw [HRD2.out]; rfl
          have HGE : Hid (∃ q : Res, q = ({ op := (op : Int), err := 0, items := ys, IA := IA, ik := ik, version := 0, count := 0, numbers := [], NA := none, nk := 0 } : Res)) := ⟨_, rfl⟩
          obtain ⟨q, hq⟩ := HGE.out
          have f0 : q.op = (({ op := (op : Int), err := 0, items := ys, IA := IA, ik := ik, version := 0, count := 0, numbers := [], NA := none, nk := 0 } : Res)).op := by rw [hq]
          rw [← hq] at GOv HSM
          have w0c : wv.cell? ⟨G, 0, none⟩ = some (.int .i64 q.op) := by rw [hq]; exact y0
          have w1c : wv.cell? ⟨G, 1, none⟩ = some (.int .i64 q.err) := by rw [hq]; exact y1
          have w2c : wv.cell? ⟨G, 2, none⟩ = some (.slice q.IA q.items.length q.ik) := by rw [hq]; exact y2
          have w3c : wv.cell? ⟨G, 3, none⟩ = some (.int .u64 (q.version : Int)) := by rw [hq]; exact y3
          have w4c : wv.cell? ⟨G, 4, none⟩ = some (.int .i64 q.count) := by rw [hq]; exact y4
          have w5c : wv.cell? ⟨G, 5, none⟩ = some (.slice q.NA q.numbers.length q.nk) := by rw [hq]; exact y5
          clear y0 y1 y2 y3 y4 y5 hq f0 HGE BOv BZv
          go_wp2_with fail
          have HFz := put6 wv (C + 1) (.int .i64 q.op) (.int .i64 q.err) (.slice q.IA q.items.length q.ik) (.int .u64 (q.version : Int)) (.int .i64 q.count) (.slice q.NA q.numbers.length q.nk)
          have HGF := GOv.out.only HFz (fun j hj _ e => by omega)
          have HBf := HBv.out.trans (HFz.below (B := C) (fun j e => by omega) (by have h1 := HBv.out.size; have h2 := HC.out; omega))
          replace HBf := HBf.mono (show w.heap.size ≤ C by have h2 := HC.out; omega)
          exact bodyPost_ret (v := .tuple #[resV q, .bool true]) (by unfold resV; simp [results, Try.results20, go_sem, z0, z1, z2, z3, z4, z5]) rfl ⟨q, by rw [HSM.out]; rfl, HGF.mono (by have h2 := HC.out; omega), (fun c e => by rw [HSM.out] at e; injection e), (fun e => by rw [HSM.out] at e; cases e), HBf⟩
  case inr.inr.inr.inl =>
    have HNE := Lib.hid (fun W => need_at 110 q rfl W)
    obtain ⟨x0, x1, _, _⟩ := HX4.out
    go_wp2_with fail
    refine (HNE.out _).mono ?_
    rintro e wx ⟨rfl, rfl⟩
    clear g0' HNE
    go_wp2_with fail
    refine (rnumber_any A2 l c2 b _ (HA3.out _ HB4.out) (by omega)).mono ?_
    rintro e wnj ⟨vj, Aj, lj, cj, bj, rfl, bn, ha, HNXj, hvj, hlj⟩
    have HARGj : Hid (∀ W, Below C w W → Arg W Aj lj cj) := fun W h => ha W (HA3.out W h)
    have hlpj : lj.length ≤ p.length := by omega
    have BGn := Lib.hid (HG4.out.below bn (Nat.le_refl _))
    have BXn := Lib.hid (HX4.out.below bn (Nat.le_refl _))
    have BZn := Lib.hid (HZ4.out.below bn (Nat.le_refl _))
    have BBn : Hid (Below C w wnj) := HB4.out.trans (bn.mono (by have := HB4.out.size; have := HC.out; omega))
    have hszn : w4.heap.size ≤ wnj.heap.size := bn.size
    clear x0 x1
    obtain ⟨x0, x1, xf0, xf1⟩ := BXn.out
    obtain ⟨g0, g1, g2, g3, g4, g5, gun⟩ := BGn.out
    have gu2 := gun 2; have gu3 := gun 3; have gu4 := gun 4; have gu5 := gun 5
    clear bn ha gun
    go_upto_region 22 with fail
    obtain ⟨wj, hwj⟩ : ∃ q, q = ((wnj).setCell ⟨X, 0, none⟩ (.slice Aj lj.length cj)).setCell ⟨X, 1, none⟩ (.bool bj) := ⟨_, rfl⟩
    have ONj : Hid (Only (fun j => j = G ∨ j = X) wnj wj) := by show Only _ _ _; rw [hwj]; exact ((Only.refl (fun j => j = G ∨ j = X) wnj).put (ad := ⟨X, 0, none⟩) (Or.inr rfl) (.slice Aj lj.length cj)).put (ad := ⟨X, 1, none⟩) (Or.inr rfl) (.bool bj)
    have HGj : Hid (BoxS wj G (startS (op : Int) 0)) := by show BoxS _ _ _; rw [hwj]; exact (BGn.out).only (set2 _ X _ _) (fun e => HXnG.out.1 e.symm)
    have HXj : Hid (Cel wj X (.slice Aj lj.length cj) (.bool bj)) := by show Cel _ _ _ _; rw [hwj]; exact Cel.set (BXn.out) _ _
    have HZj : Hid (BoxS wj (C + 1) (startS 0 0)) := by show BoxS _ _ _; rw [hwj]; exact (BZn.out).only (set2 _ X _ _) (fun e => HXnG.out.2.1 e.symm)
    have HBj : Hid (Below C w wj) := BBn.out.trans (ONj.out.below (B := C) (fun j e => by have := HGC.out; have := HXG.out; omega) (by have := BBn.out.size; have := HC.out; omega))
    have hszj : w4.heap.size ≤ wj.heap.size := Nat.le_trans hszn ONj.out.size
    rw [← hwj]
    clear hwj x0 x1 xf0 xf1 g0 g1 g2 g3 g4 g5 gu2 gu3 gu4 gu5 BGn BXn BZn BBn hszn HG4 HX4 HZ4 HB4 
    have HRQ0 : Hid (R = if 64 < vj then none else (contN bj vj [] lj).bind fun z => finS ({ bareR (op : Int) 0 with numbers := z.1 }, z.2)) := by show _ = _; rw [HRB.out]; exact head_n q HNXj.out
    clear HRB q
    by_cases hlim : 64 < vj
    · have HN : Hid (R = none) := by show _ = _; rw [HRQ0.out, if_pos hlim]
      have e5 : decide ((64 : Int) < vj) = true := decide_eq_true (by omega)
      clear hlim
      obtain ⟨z0, z1, z2, z3, z4, z5, zun⟩ := HZj.out
      have zu0 := zun 0; have zu1 := zun 1; have zu2 := zun 2; have zu3 := zun 3; have zu4 := zun 4; have zu5 := zun 5
      have HBq := Lib.hid (HBj.out)
      clear zun
      go_wp2_with fail
      have HFz := put6 wj (C + 1) (.int .i64 0) (.int .i64 0) (.slice none 0 0) (.int .u64 0) (.int .i64 0) (.slice none 0 0)
      have HBf := HBq.out.trans (HFz.below (B := C) (fun j e => by omega) (by have h1 := HBq.out.size; have h2 := HC.out; omega))
      replace HBf := HBf.mono (show w.heap.size ≤ C by have h2 := HC.out; omega)
      exact bodyPost_ret (v := .tuple #[.agg #[.int .i64 0, .int .i64 0, .slice none 0 0, .int .u64 0, .int .i64 0, .slice none 0 0], .bool false]) (by simp [results, Try.results20, go_sem, z0, z1, z2, z3, z4, z5]) rfl (rr_none HN.out rfl HBf)
    have e5 : decide ((64 : Int) < vj) = false := decide_eq_false (by omega)
    have hvj : vj ≤ 64 := by omega
    have HRQ : Hid (R = (contN bj vj [] lj).bind fun z => finS ({ bareR (op : Int) 0 with numbers := z.1 }, z.2)) := by show _ = _; rw [HRQ0.out, if_neg hlim]
    clear hlim HRQ0
    obtain ⟨g0, g1, g2, g3, g4, g5, gun⟩ := HGj.out
    have gu2 := gun 2; have gu3 := gun 3; have gu4 := gun 4; have gu5 := gun 5
    clear gun
    go_upto_region 25 with fail
    obtain ⟨wk, hwk⟩ : ∃ q, q = (wj).setCell ⟨G, 4, none⟩ (.int .i64 0) := ⟨_, rfl⟩
    have ONk : Hid (Only (fun j => j = G ∨ j = X) wj wk) := by show Only _ _ _; rw [hwk]; exact (Only.refl (fun j => j = G ∨ j = X) wj).put (ad := ⟨G, 4, none⟩) (Or.inl rfl) (.int .i64 0)
    have HGk : Hid (BoxS wk G (({ op := (op : Int), err := 0, items := [], IA := none, ik := 0, version := 0, count := 0, numbers := [], NA := none, nk := 0 } : Res))) := by show BoxS _ _ _; rw [hwk]; exact (boxS_set (HGj.out)).2.2.2.1 0
    have HXk : Hid (Cel wk X (.slice Aj lj.length cj) (.bool bj)) := by show Cel _ _ _ _; rw [hwk]; exact cel_only (HXj.out) (one_put _ G 4 _) HXnG.out.1
    have HZk : Hid (BoxS wk (C + 1) (startS 0 0)) := by show BoxS _ _ _; rw [hwk]; exact (HZj.out).only (one_put _ G 4 _) (fun e => HXnG.out.2.2 e.symm)
    have HBk : Hid (Below C w wk) := HBj.out.trans (ONk.out.below (B := C) (fun j e => by have := HGC.out; have := HXG.out; omega) (by have := HBj.out.size; have := HC.out; omega))
    have hszk : wj.heap.size ≤ wk.heap.size := ONk.out.size
    rw [← hwk]
    clear hwk g0 g1 g2 g3 g4 g5 gu2 gu3 gu4 gu5 HGj HXj HZj HBj
    go_wp2_with fail
    go_loopw [9] (fun i wr => i = .int .u64 0 ∧ BoxS wr G (({ op := (op : Int), err := 0, items := [], IA := none, ik := 0, version := 0, count := 0, numbers := [], NA := none, nk := 0 } : Res)) ∧ Cel wr X (.slice Aj lj.length cj) (.bool bj) ∧ BoxS wr (C + 1) (startS 0 0) ∧ Below C w wr ∧ wr = wk) (fun _ _ => 0)
    case atStart => exact ⟨rfl, HGk.out, HXk.out, HZk.out, HBk.out, rfl⟩
    case round =>
      obtain ⟨rfl, a1, a2, a3, a4, a5⟩ := hrel
      obtain ⟨wq1, rfl⟩ : ∃ q : World, q = wr := ⟨_, rfl⟩
      have HGq1 := Lib.hid a1; have HXq1 := Lib.hid a2; have HZq1 := Lib.hid a3; have HBq1 := Lib.hid a4; have HWq1 := Lib.hid a5
      clear a1 a2 a3 a4 a5 HGk HXk HZk HBk
      have HGK : Hid (G < wq1.heap.size ∧ X < wq1.heap.size) := by show _ ∧ _; exact ⟨HGq1.out.lt, HXq1.out.lt⟩
      obtain ⟨K0, hK0⟩ : ∃ q, q = wq1.heap.size := ⟨_, rfl⟩
      have HK0 := Lib.hid hK0
      rw [← hK0] at HGK
      clear hK0
      go_wp2_with fail
      go_loopw [12] (fun i wr => ∃ (k : Nat) (ns : List Nat) (NA : Option Addr) (nk : Nat) (lq : Bs) (Aq : Option Addr) (cq : Nat) (bq : Bool), k ≤ vj ∧ i = .int .u64 (k : Int) ∧ ns.length = k ∧ BoxS wr G (({ op := (op : Int), err := 0, items := [], IA := none, ik := 0, version := 0, count := 0, numbers := ns, NA := NA, nk := nk } : Res)) ∧ NuO K0 wr NA nk ns ∧ Cel wr X (.slice Aq lq.length cq) (.bool bq) ∧ (∀ W, Below C w W → Arg W Aq lq cq) ∧ lq.length ≤ p.length ∧ contN bj vj [] lj = contN bq (vj - k) ns lq ∧ (∀ n ∈ ns, n < big) ∧ BoxS wr (C + 1) (startS 0 0) ∧ Below C w wr ∧ K0 ≤ wr.heap.size) (fun i _ => vj - (intOf i).toNat)
      case atStart => exact ⟨0, [], none, 0, lj, Aj, cj, bj, Nat.zero_le _, rfl, rfl, HGq1.out, Mine.nil _ _ _, HXq1.out, HARGj.out, by omega, rfl, (fun y hy => by cases hy), HZq1.out, HBq1.out, by rw [HK0.out]; exact Nat.le_refl _⟩
      case round =>
        obtain ⟨k, ns, NA, nk, l0, A0, c0, b0, hk, rfl, hyl, a1, a2, a3, a4, hl0, a5, a6, a7, a8, a9⟩ := hrel
        obtain ⟨wo, rfl⟩ : ∃ q : World, q = wr := ⟨_, rfl⟩
        have HGo := Lib.hid a1; have HIo := Lib.hid a2; have HXo := Lib.hid a3; have HARGo : Hid (∀ W, Below C w W → Arg W A0 l0 c0) := a4; have HCo := Lib.hid a5; have HYo := Lib.hid a6; have HZo := Lib.hid a7; have HBo := Lib.hid a8; have HKo := Lib.hid a9
        clear a1 a2 a3 a4 a5 a6 a7 a8 a9 HGq1 HXq1 HZq1 HBq1
        by_cases hlt : k < vj
        · have i1 : (k : Int) < vj := by omega
          have hkm : vj - k = (vj - (k + 1)) + 1 := by omega
          rw [hkm] at HCo
          have hk1 : k + 1 ≤ vj := by omega
          clear hkm
          obtain ⟨x0, x1, _, _⟩ := HXo.out
          go_wp2_with fail
          refine (rnumber_any A0 l0 c0 b0 _ (HARGo.out _ HBo.out) (by omega)).mono ?_
          rintro e wna ⟨va, Aa, la, ca, ba, rfl, bn, ha, HNXa, hva, hla⟩
          have HARGa : Hid (∀ W, Below C w W → Arg W Aa la ca) := fun W h => ha W (HARGo.out W h)
          have hlpa : la.length ≤ p.length := by omega
          have BGn := Lib.hid (HGo.out.below bn (Nat.le_refl _))
          have BXn := Lib.hid (HXo.out.below bn (Nat.le_refl _))
          have BZn := Lib.hid (HZo.out.below bn (Nat.le_refl _))
          have BBn : Hid (Below C w wna) := HBo.out.trans (bn.mono (by have := HBo.out.size; have := HC.out; omega))
          have hszn : wo.heap.size ≤ wna.heap.size := bn.size
          clear x0 x1
          have HIn := Lib.hid (Mine.below HIo.out bn (Nat.le_refl _))
          obtain ⟨x0, x1, xf0, xf1⟩ := BXn.out
          obtain ⟨g0, g1, g2, g3, g4, g5, gun⟩ := BGn.out
          have gu2 := gun 2; have gu3 := gun 3; have gu4 := gun 4; have gu5 := gun 5
          clear bn ha gun
          go_upto_region 45 with fail
          obtain ⟨wa, hwa⟩ : ∃ q, q = ((wna).setCell ⟨X, 0, none⟩ (.slice Aa la.length ca)).setCell ⟨X, 1, none⟩ (.bool ba) := ⟨_, rfl⟩
          have ONa : Hid (Only (fun j => j = G ∨ j = X) wna wa) := by show Only _ _ _; rw [hwa]; exact ((Only.refl (fun j => j = G ∨ j = X) wna).put (ad := ⟨X, 0, none⟩) (Or.inr rfl) (.slice Aa la.length ca)).put (ad := ⟨X, 1, none⟩) (Or.inr rfl) (.bool ba)
          have HGa : Hid (BoxS wa G (({ op := (op : Int), err := 0, items := [], IA := none, ik := 0, version := 0, count := 0, numbers := ns, NA := NA, nk := nk } : Res))) := by show BoxS _ _ _; rw [hwa]; exact (BGn.out).only (set2 _ X _ _) (fun e => HXnG.out.1 e.symm)
          have HXa : Hid (Cel wa X (.slice Aa la.length ca) (.bool ba)) := by show Cel _ _ _ _; rw [hwa]; exact Cel.set (BXn.out) _ _
          have HZa : Hid (BoxS wa (C + 1) (startS 0 0)) := by show BoxS _ _ _; rw [hwa]; exact (BZn.out).only (set2 _ X _ _) (fun e => HXnG.out.2.1 e.symm)
          have HBa : Hid (Below C w wa) := BBn.out.trans (ONa.out.below (B := C) (fun j e => by have := HGC.out; have := HXG.out; omega) (by have := BBn.out.size; have := HC.out; omega))
          have hsza : wo.heap.size ≤ wa.heap.size := Nat.le_trans hszn ONa.out.size
          rw [← hwa]
          clear hwa x0 x1 xf0 xf1 g0 g1 g2 g3 g4 g5 gu2 gu3 gu4 gu5 BGn BXn BZn BBn hszn HGo HXo HZo HBo HARGo
          have HIa : Hid (NuO K0 wa NA nk ns) := Mine.only HIn.out ONa.out (fun a ha e => by have h1 := (Mine.base HIo.out ha).1; have := HGK.out; omega)
          obtain ⟨g0, g1, g2, g3, g4, g5, gun⟩ := HGa.out
          have gu5 := gun 5
          simp only at g5
          have hKw : K0 ≤ wa.heap.size := by have := HKo.out; omega
          clear gun HIn
          go_wp2_with (at_builtin; (refine wpList_num rfl _ _ rfl hyl rfl HIa.out va rfl rfl (by omega) hKw rfl ?_))
          intro NA2 nk2 wI ns2 HYS HI2 bI kI
          have HG2 := Lib.hid (HGa.out.kept (bI.block G HGK.out.1))
          have HX2 := Lib.hid (HXa.out.kept (bI.block X HGK.out.2))
          have HZ2 := Lib.hid (HZa.out.kept (bI.block (C + 1) (by have := HGK.out; have := HGC.out; omega)))
          have HB2 : Hid (Below C w wI) := HBa.out.trans (bI.mono (by have := HGK.out; have := HGC.out; omega))
          have HI3 : Hid (NuO K0 wI NA2 nk2 ns2) := HI2
          have hzI := bI.size
          have O3 := Lib.hid (one_put wI G 5 (.slice NA2 ns2.length nk2))
          have HYL : Hid (ns2.length = k + 1) := by show _ = _; rw [HYS.out, List.length_append, hyl]; rfl
          have HG3 : Hid (BoxS (wI.setCell ⟨G, 5, none⟩ (.slice NA2 ns2.length nk2)) G (({ op := (op : Int), err := 0, items := [], IA := none, ik := 0, version := 0, count := 0, numbers := ns2, NA := NA2, nk := nk2 } : Res))) := (boxS_set HG2.out).2.2.2.2 NA2 ns2 nk2 _ rfl
          have HX3 := Lib.hid (cel_only HX2.out O3.out HXnG.out.1)
          have HZ3 := Lib.hid (HZ2.out.only O3.out (fun e => HXnG.out.2.2 e.symm))
          have HI4 : Hid (NuO K0 (wI.setCell ⟨G, 5, none⟩ (.slice NA2 ns2.length nk2)) NA2 nk2 ns2) := Mine.only HI3.out O3.out (fun a ha e => by have h1 := (Mine.base HI3.out ha).1; have := HGK.out; omega)
          have HB3 : Hid (Below C w (wI.setCell ⟨G, 5, none⟩ (.slice NA2 ns2.length nk2))) := HB2.out.setCell (by have := HGC.out; simp; omega) _
          obtain ⟨_, _, _, _, _, p5, pun⟩ := HG2.out
          have pu5 := pun 5
          clear HI2 bI kI pun g0 g1 g2 g3 g4 g5 gu5
          go_wp2_with fail
          go_roundw
          case rel => exact ⟨k + 1, ns2, NA2, nk2, la, Aa, ca, ba, hk1, by go_num, HYL.out, HG3.out, HI4.out, HX3.out, HARGa.out, by omega, by rw [HCo.out, HYS.out]; exact num_step HNXa.out, (fun y hy => by rw [HYS.out] at hy; rcases List.mem_append.1 hy with hy | hy; exact HYo.out y hy; rw [List.mem_singleton.1 hy]; exact hva), HZ3.out, HB3.out, by simp; omega⟩
          case measure => simp [intOf]; omega
        · obtain rfl : vj = k := by omega
          have hnn : ¬ ((vj : Nat) : Int) < vj := by omega
          have HRD : Hid (R = if b0 then none else finS (({ op := (op : Int), err := 0, items := [], IA := none, ik := 0, version := 0, count := 0, numbers := ns, NA := NA, nk := nk } : Res).r, l0)) := by
            show _ = _; rw [HRQ.out, HCo.out, Nat.sub_self, contN_end]; cases b0 <;> rfl
          have HGT : Hid (GotS (C + 2) wo (({ op := (op : Int), err := 0, items := [], IA := none, ik := 0, version := 0, count := 0, numbers := ns, NA := NA, nk := nk } : Res))) := ⟨⟨RI.nil _ _, fun _ => rfl, (fun y hy => by cases hy), (fun y hy => by cases hy), rn_mine HIo.out, Mine.non HIo.out⟩, bnd_got (n := 0) ho15 (by omega) (by omega) (by omega) (by unfold big; omega) (by simp) (by omega) (fun y hy => by cases hy) HYo.out _ _ _ _, (fun a e => by cases e), fun a ha => ⟨by have := (Mine.base HIo.out ha).1; have := HGK.out; have := HGC.out; omega, (Mine.base HIo.out ha).2.1⟩, (fun y hy => by cases hy)⟩
          clear HIo HYo HCo HRQ hyl
          obtain ⟨x0, x1, _, _⟩ := HXo.out
          cases b0
          rotate_left
          · have HN : Hid (R = none) := by show _ = _; rw [HRD.out]; rfl
            obtain ⟨z0, z1, z2, z3, z4, z5, zun⟩ := HZo.out
            have zu0 := zun 0; have zu1 := zun 1; have zu2 := zun 2; have zu3 := zun 3; have zu4 := zun 4; have zu5 := zun 5
            have HBq := Lib.hid (HBo.out)
            clear zun
            go_wp2_with fail
            have HFz := put6 wo (C + 1) (.int .i64 0) (.int .i64 0) (.slice none 0 0) (.int .u64 0) (.int .i64 0) (.slice none 0 0)
            have HBf := HBq.out.trans (HFz.below (B := C) (fun j e => by omega) (by have h1 := HBq.out.size; have h2 := HC.out; omega))
            replace HBf := HBf.mono (show w.heap.size ≤ C by have h2 := HC.out; omega)
            exact bodyPost_ret (v := .tuple #[.agg #[.int .i64 0, .int .i64 0, .slice none 0 0, .int .u64 0, .int .i64 0, .slice none 0 0], .bool false]) (by simp [results, Try.results20, go_sem, z0, z1, z2, z3, z4, z5]) rfl (rr_none HN.out rfl HBf)
          by_cases hl0 : 0 < l0.length
          · have HN : Hid (R = none) := by
              show _ = _; rw [HRD.out]; unfold finS; rw [if_neg (by simp), if_neg (fun h => by have := h.1; simp only at this; rw [this] at hl0; simp at hl0)]
            have hl1 : (0 : Int) < l0.length := by omega
            have hln : l0 ≠ [] := fun e => by rw [e] at hl0; simp at hl0
            clear hl0
            obtain ⟨z0, z1, z2, z3, z4, z5, zun⟩ := HZo.out
            have zu0 := zun 0; have zu1 := zun 1; have zu2 := zun 2; have zu3 := zun 3; have zu4 := zun 4; have zu5 := zun 5
            have HBq := Lib.hid (HBo.out)
            clear zun
            go_wp2_with fail
            have HFz := put6 wo (C + 1) (.int .i64 0) (.int .i64 0) (.slice none 0 0) (.int .u64 0) (.int .i64 0) (.slice none 0 0)
            have HBf := HBq.out.trans (HFz.below (B := C) (fun j e => by omega) (by have h1 := HBq.out.size; have h2 := HC.out; omega))
            replace HBf := HBf.mono (show w.heap.size ≤ C by have h2 := HC.out; omega)
            exact bodyPost_ret (v := .tuple #[.agg #[.int .i64 0, .int .i64 0, .slice none 0 0, .int .u64 0, .int .i64 0, .slice none 0 0], .bool false]) (by simp [results, Try.results20, go_sem, z0, z1, z2, z3, z4, z5]) rfl (rr_none HN.out rfl HBf)
          have hl1 : ¬ (0 : Int) < l0.length := by omega
          have hle : l0 = [] := List.eq_nil_of_length_eq_zero (by omega)
          have HRD2 : Hid (R = if validS (({ op := (op : Int), err := 0, items := [], IA := none, ik := 0, version := 0, count := 0, numbers := ns, NA := NA, nk := nk } : Res)).r = true then some (({ op := (op : Int), err := 0, items := [], IA := none, ik := 0, version := 0, count := 0, numbers := ns, NA := NA, nk := nk } : Res)).r else none) := by
            show _ = _; rw [HRD.out, hle]; unfold finS; simp
          clear HRD
          clear hl0 hl1
          subst hle
          simp only [List.length_nil] at x0
          have HV := Lib.hid (Sv.rvalid_any (({ op := (op : Int), err := 0, items := [], IA := none, ik := 0, version := 0, count := 0, numbers := ns, NA := NA, nk := nk } : Res)) wo HGT.out.rc HGT.out.bnd)
          generalize validS (({ op := (op : Int), err := 0, items := [], IA := none, ik := 0, version := 0, count := 0, numbers := ns, NA := NA, nk := nk } : Res)).r = vb at *
          unfold resV at HV
          obtain ⟨y0, y1, y2, y3, y4, y5, _⟩ := HGo.out
          try simp only [List.length_nil, Int.natCast_zero] at HV y0 y1 y2 y3 y4 y5
          go_wp2_with fail
          with_reducible refine HV.out.mono ?_
          rintro e wv ⟨rfl, bv⟩
          have BOv := Lib.hid (HGo.out.below bv (Nat.le_refl _))
          have GOv := Lib.hid (HGT.out.below bv (Nat.le_refl _))
          have BZv := Lib.hid ((HZo.out).below bv (Nat.le_refl _))
          have HBv : Hid (Below C w wv) := (HBo.out).trans (bv.mono (by have := (HBo.out).size; have := HC.out; omega))
          clear bv y0 y1 y2 y3 y4 y5 x0 x1
          cases vb
          · have HN : Hid (R = none) := by show _ = _; rw [HRD2.out]; rfl
            obtain ⟨z0, z1, z2, z3, z4, z5, zun⟩ := BZv.out
            have zu0 := zun 0; have zu1 := zun 1; have zu2 := zun 2; have zu3 := zun 3; have zu4 := zun 4; have zu5 := zun 5
            have HBq := Lib.hid (HBv.out)
            clear zun
            go_wp2_with fail
            have HFz := put6 wv (C + 1) (.int .i64 0) (.int .i64 0) (.slice none 0 0) (.int .u64 0) (.int .i64 0) (.slice none 0 0)
            have HBf := HBq.out.trans (HFz.below (B := C) (fun j e => by omega) (by have h1 := HBq.out.size; have h2 := HC.out; omega))
            replace HBf := HBf.mono (show w.heap.size ≤ C by have h2 := HC.out; omega)
            exact bodyPost_ret (v := .tuple #[.agg #[.int .i64 0, .int .i64 0, .slice none 0 0, .int .u64 0, .int .i64 0, .slice none 0 0], .bool false]) (by simp [results, Try.results20, go_sem, z0, z1, z2, z3, z4, z5]) rfl (rr_none HN.out rfl HBf)
          obtain ⟨y0, y1, y2, y3, y4, y5, _⟩ := BOv.out
          obtain ⟨z0, z1, z2, z3, z4, z5, zun⟩ := BZv.out
          have zu0 := zun 0; have zu1 := zun 1; have zu2 := zun 2; have zu3 := zun 3; have zu4 := zun 4; have zu5 := zun 5
          clear zun
          have HSM : Hid (R = some (({ op := (op : Int), err := 0, items := [], IA := none, ik := 0, version := 0, count := 0, numbers := ns, NA := NA, nk := nk } : Res)).r) := by show _ = _; rw [HRD2.out]; rfl
          have HGE : Hid (∃ q : Res, q = ({ op := (op : Int), err := 0, items := [], IA := none, ik := 0, version := 0, count := 0, numbers := ns, NA := NA, nk := nk } : Res)) := ⟨_, rfl⟩
          obtain ⟨q, hq⟩ := HGE.out
          have f0 : q.op = (({ op := (op : Int), err := 0, items := [], IA := none, ik := 0, version := 0, count := 0, numbers := ns, NA := NA, nk := nk } : Res)).op := by rw [hq]
          rw [← hq] at GOv HSM
          have w0c : wv.cell? ⟨G, 0, none⟩ = some (.int .i64 q.op) := by rw [hq]; exact y0
          have w1c : wv.cell? ⟨G, 1, none⟩ = some (.int .i64 q.err) := by rw [hq]; exact y1
          have w2c : wv.cell? ⟨G, 2, none⟩ = some (.slice q.IA q.items.length q.ik) := by rw [hq]; exact y2
          have w3c : wv.cell? ⟨G, 3, none⟩ = some (.int .u64 (q.version : Int)) := by rw [hq]; exact y3
          have w4c : wv.cell? ⟨G, 4, none⟩ = some (.int .i64 q.count) := by rw [hq]; exact y4
          have w5c : wv.cell? ⟨G, 5, none⟩ = some (.slice q.NA q.numbers.length q.nk) := by rw [hq]; exact y5
          clear y0 y1 y2 y3 y4 y5 hq f0 HGE BOv BZv
          go_wp2_with fail
          have HFz := put6 wv (C + 1) (.int .i64 q.op) (.int .i64 q.err) (.slice q.IA q.items.length q.ik) (.int .u64 (q.version : Int)) (.int .i64 q.count) (.slice q.NA q.numbers.length q.nk)
          have HGF := GOv.out.only HFz (fun j hj _ e => by omega)
          have HBf := HBv.out.trans (HFz.below (B := C) (fun j e => by omega) (by have h1 := HBv.out.size; have h2 := HC.out; omega))
          replace HBf := HBf.mono (show w.heap.size ≤ C by have h2 := HC.out; omega)
          exact bodyPost_ret (v := .tuple #[resV q, .bool true]) (by unfold resV; simp [results, Try.results20, go_sem, z0, z1, z2, z3, z4, z5]) rfl ⟨q, by rw [HSM.out]; rfl, HGF.mono (by have h2 := HC.out; omega), (fun c e => by rw [HSM.out] at e; injection e), (fun e => by rw [HSM.out] at e; cases e), HBf⟩
  case inr.inr.inr.inr =>
    have HNE := Lib.hid (fun W => need_at 99 q rfl W)
    obtain ⟨x0, x1, _, _⟩ := HX4.out
    go_wp2_with fail
    refine (HNE.out _).mono ?_
    rintro e wx ⟨rfl, rfl⟩
    clear g0' HNE
    go_wp2_with fail
    refine (rnumber_any A2 l c2 b _ (HA3.out _ HB4.out) (by omega)).mono ?_
    rintro e wnj ⟨vj, Aj, lj, cj, bj, rfl, bn, ha, HNXj, hvj, hlj⟩
    have HARGj : Hid (∀ W, Below C w W → Arg W Aj lj cj) := fun W h => ha W (HA3.out W h)
    have hlpj : lj.length ≤ p.length := by omega
    have BGn := Lib.hid (HG4.out.below bn (Nat.le_refl _))
    have BXn := Lib.hid (HX4.out.below bn (Nat.le_refl _))
    have BZn := Lib.hid (HZ4.out.below bn (Nat.le_refl _))
    have BBn : Hid (Below C w wnj) := HB4.out.trans (bn.mono (by have := HB4.out.size; have := HC.out; omega))
    have hszn : w4.heap.size ≤ wnj.heap.size := bn.size
    clear x0 x1
    obtain ⟨x0, x1, xf0, xf1⟩ := BXn.out
    obtain ⟨g0, g1, g2, g3, g4, g5, gun⟩ := BGn.out
    have gu2 := gun 2; have gu3 := gun 3; have gu4 := gun 4; have gu5 := gun 5
    clear bn ha gun
    go_upto_region 22 with fail
    obtain ⟨wj, hwj⟩ : ∃ q, q = ((wnj).setCell ⟨X, 0, none⟩ (.slice Aj lj.length cj)).setCell ⟨X, 1, none⟩ (.bool bj) := ⟨_, rfl⟩
    have ONj : Hid (Only (fun j => j = G ∨ j = X) wnj wj) := by show Only _ _ _; rw [hwj]; exact ((Only.refl (fun j => j = G ∨ j = X) wnj).put (ad := ⟨X, 0, none⟩) (Or.inr rfl) (.slice Aj lj.length cj)).put (ad := ⟨X, 1, none⟩) (Or.inr rfl) (.bool bj)
    have HGj : Hid (BoxS wj G (startS (op : Int) 0)) := by show BoxS _ _ _; rw [hwj]; exact (BGn.out).only (set2 _ X _ _) (fun e => HXnG.out.1 e.symm)
    have HXj : Hid (Cel wj X (.slice Aj lj.length cj) (.bool bj)) := by show Cel _ _ _ _; rw [hwj]; exact Cel.set (BXn.out) _ _
    have HZj : Hid (BoxS wj (C + 1) (startS 0 0)) := by show BoxS _ _ _; rw [hwj]; exact (BZn.out).only (set2 _ X _ _) (fun e => HXnG.out.2.1 e.symm)
    have HBj : Hid (Below C w wj) := BBn.out.trans (ONj.out.below (B := C) (fun j e => by have := HGC.out; have := HXG.out; omega) (by have := BBn.out.size; have := HC.out; omega))
    have hszj : w4.heap.size ≤ wj.heap.size := Nat.le_trans hszn ONj.out.size
    rw [← hwj]
    clear hwj x0 x1 xf0 xf1 g0 g1 g2 g3 g4 g5 gu2 gu3 gu4 gu5 BGn BXn BZn BBn hszn HG4 HX4 HZ4 HB4 
    have HRQ : Hid (R = if 1099511627776 < vj then none else if bj then none else finS ({ bareR (op : Int) 0 with count := (vj : Int) }, lj)) := by show _ = _; rw [HRB.out]; exact head_c q HNXj.out
    clear HRB q
    by_cases hlim : 1099511627776 < vj
    · have HN : Hid (R = none) := by show _ = _; rw [HRQ.out, if_pos hlim]
      have e5 : decide ((1099511627776 : Int) < vj) = true := decide_eq_true (by omega)
      clear hlim
      obtain ⟨z0, z1, z2, z3, z4, z5, zun⟩ := HZj.out
      have zu0 := zun 0; have zu1 := zun 1; have zu2 := zun 2; have zu3 := zun 3; have zu4 := zun 4; have zu5 := zun 5
      have HBq := Lib.hid (HBj.out)
      clear zun
      go_wp2_with fail
      have HFz := put6 wj (C + 1) (.int .i64 0) (.int .i64 0) (.slice none 0 0) (.int .u64 0) (.int .i64 0) (.slice none 0 0)
      have HBf := HBq.out.trans (HFz.below (B := C) (fun j e => by omega) (by have h1 := HBq.out.size; have h2 := HC.out; omega))
      replace HBf := HBf.mono (show w.heap.size ≤ C by have h2 := HC.out; omega)
      exact bodyPost_ret (v := .tuple #[.agg #[.int .i64 0, .int .i64 0, .slice none 0 0, .int .u64 0, .int .i64 0, .slice none 0 0], .bool false]) (by simp [results, Try.results20, go_sem, z0, z1, z2, z3, z4, z5]) rfl (rr_none HN.out rfl HBf)
    have e5 : decide ((1099511627776 : Int) < vj) = false := decide_eq_false (by omega)
    have hvj : vj ≤ 1099511627776 := by omega
    have HRD : Hid (R = if bj then none else finS (({ op := (op : Int), err := 0, items := [], IA := none, ik := 0, version := 0, count := (vj : Int), numbers := [], NA := none, nk := 0 } : Res).r, lj)) := by show _ = _; rw [HRQ.out, if_neg hlim]; rfl
    clear hlim HRQ
    obtain ⟨g0, g1, g2, g3, g4, g5, gun⟩ := HGj.out
    have gu2 := gun 2; have gu3 := gun 3; have gu4 := gun 4; have gu5 := gun 5
    clear gun
    go_upto_region 25 with fail
    obtain ⟨wk, hwk⟩ : ∃ q, q = (wj).setCell ⟨G, 4, none⟩ (.int .i64 (vj : Int)) := ⟨_, rfl⟩
    have ONk : Hid (Only (fun j => j = G ∨ j = X) wj wk) := by show Only _ _ _; rw [hwk]; exact (Only.refl (fun j => j = G ∨ j = X) wj).put (ad := ⟨G, 4, none⟩) (Or.inl rfl) (.int .i64 (vj : Int))
    have HGk : Hid (BoxS wk G (({ op := (op : Int), err := 0, items := [], IA := none, ik := 0, version := 0, count := (vj : Int), numbers := [], NA := none, nk := 0 } : Res))) := by show BoxS _ _ _; rw [hwk]; exact (boxS_set (HGj.out)).2.2.2.1 (vj : Int)
    have HXk : Hid (Cel wk X (.slice Aj lj.length cj) (.bool bj)) := by show Cel _ _ _ _; rw [hwk]; exact cel_only (HXj.out) (one_put _ G 4 _) HXnG.out.1
    have HZk : Hid (BoxS wk (C + 1) (startS 0 0)) := by show BoxS _ _ _; rw [hwk]; exact (HZj.out).only (one_put _ G 4 _) (fun e => HXnG.out.2.2 e.symm)
    have HBk : Hid (Below C w wk) := HBj.out.trans (ONk.out.below (B := C) (fun j e => by have := HGC.out; have := HXG.out; omega) (by have := HBj.out.size; have := HC.out; omega))
    have hszk : wj.heap.size ≤ wk.heap.size := ONk.out.size
    rw [← hwk]
    clear hwk g0 g1 g2 g3 g4 g5 gu2 gu3 gu4 gu5 HGj HXj HZj HBj
    go_wp2_with fail
    go_loopw [9] (fun i wr => i = .int .u64 0 ∧ BoxS wr G (({ op := (op : Int), err := 0, items := [], IA := none, ik := 0, version := 0, count := (vj : Int), numbers := [], NA := none, nk := 0 } : Res)) ∧ Cel wr X (.slice Aj lj.length cj) (.bool bj) ∧ BoxS wr (C + 1) (startS 0 0) ∧ Below C w wr ∧ wr = wk) (fun _ _ => 0)
    case atStart => exact ⟨rfl, HGk.out, HXk.out, HZk.out, HBk.out, rfl⟩
    case round =>
      obtain ⟨rfl, a1, a2, a3, a4, a5⟩ := hrel
      obtain ⟨wq1, rfl⟩ : ∃ q : World, q = wr := ⟨_, rfl⟩
      have HGq1 := Lib.hid a1; have HXq1 := Lib.hid a2; have HZq1 := Lib.hid a3; have HBq1 := Lib.hid a4; have HWq1 := Lib.hid a5
      clear a1 a2 a3 a4 a5 HGk HXk HZk HBk
      go_wp2_with fail
      go_loopw [12] (fun i wr => i = .int .u64 0 ∧ BoxS wr G (({ op := (op : Int), err := 0, items := [], IA := none, ik := 0, version := 0, count := (vj : Int), numbers := [], NA := none, nk := 0 } : Res)) ∧ Cel wr X (.slice Aj lj.length cj) (.bool bj) ∧ BoxS wr (C + 1) (startS 0 0) ∧ Below C w wr ∧ wr = wq1) (fun _ _ => 0)
      case atStart => exact ⟨rfl, HGq1.out, HXq1.out, HZq1.out, HBq1.out, rfl⟩
      case round =>
        obtain ⟨rfl, a1, a2, a3, a4, a5⟩ := hrel
        obtain ⟨wq2, rfl⟩ : ∃ q : World, q = wr := ⟨_, rfl⟩
        have HGq2 := Lib.hid a1; have HXq2 := Lib.hid a2; have HZq2 := Lib.hid a3; have HBq2 := Lib.hid a4; have HWq2 := Lib.hid a5
        clear a1 a2 a3 a4 a5 HGq1 HXq1 HZq1 HBq1
        have HGT : Hid (GotS (C + 2) wq2 (({ op := (op : Int), err := 0, items := [], IA := none, ik := 0, version := 0, count := (vj : Int), numbers := [], NA := none, nk := 0 } : Res))) := ⟨⟨RI.nil _ _, fun _ => rfl, (fun y hy => by cases hy), (fun y hy => by cases hy), RN.nil _ _, fun _ => rfl⟩, bnd_got (n := 0) ho15 (by omega) (by omega) (by omega) (by unfold big; omega) (by simp) (by simp) (fun y hy => by cases hy) (fun n hn => by cases hn) _ _ _ _, (fun a e => by cases e), (fun a e => by cases e), (fun y hy => by cases hy)⟩
        obtain ⟨x0, x1, _, _⟩ := HXq2.out
        cases bj
        rotate_left
        · have HN : Hid (R = none) := by show _ = _; rw [HRD.out]; rfl
          obtain ⟨z0, z1, z2, z3, z4, z5, zun⟩ := HZq2.out
          have zu0 := zun 0; have zu1 := zun 1; have zu2 := zun 2; have zu3 := zun 3; have zu4 := zun 4; have zu5 := zun 5
          have HBq := Lib.hid (HBq2.out)
          clear zun
          go_wp2_with fail
          have HFz := put6 wq2 (C + 1) (.int .i64 0) (.int .i64 0) (.slice none 0 0) (.int .u64 0) (.int .i64 0) (.slice none 0 0)
          have HBf := HBq.out.trans (HFz.below (B := C) (fun j e => by omega) (by have h1 := HBq.out.size; have h2 := HC.out; omega))
          replace HBf := HBf.mono (show w.heap.size ≤ C by have h2 := HC.out; omega)
          exact bodyPost_ret (v := .tuple #[.agg #[.int .i64 0, .int .i64 0, .slice none 0 0, .int .u64 0, .int .i64 0, .slice none 0 0], .bool false]) (by simp [results, Try.results20, go_sem, z0, z1, z2, z3, z4, z5]) rfl (rr_none HN.out rfl HBf)
        by_cases hl0 : 0 < lj.length
        · have HN : Hid (R = none) := by
            show _ = _; rw [HRD.out]; unfold finS; rw [if_neg (by simp), if_neg (fun h => by have := h.1; simp only at this; rw [this] at hl0; simp at hl0)]
          have hl1 : (0 : Int) < lj.length := by omega
          have hln : lj ≠ [] := fun e => by rw [e] at hl0; simp at hl0
          clear hl0
          obtain ⟨z0, z1, z2, z3, z4, z5, zun⟩ := HZq2.out
          have zu0 := zun 0; have zu1 := zun 1; have zu2 := zun 2; have zu3 := zun 3; have zu4 := zun 4; have zu5 := zun 5
          have HBq := Lib.hid (HBq2.out)
          clear zun
          go_wp2_with fail
          have HFz := put6 wq2 (C + 1) (.int .i64 0) (.int .i64 0) (.slice none 0 0) (.int .u64 0) (.int .i64 0) (.slice none 0 0)
          have HBf := HBq.out.trans (HFz.below (B := C) (fun j e => by omega) (by have h1 := HBq.out.size; have h2 := HC.out; omega))
          replace HBf := HBf.mono (show w.heap.size ≤ C by have h2 := HC.out; omega)
          exact bodyPost_ret (v := .tuple #[.agg #[.int .i64 0, .int .i64 0, .slice none 0 0, .int .u64 0, .int .i64 0, .slice none 0 0], .bool false]) (by simp [results, Try.results20, go_sem, z0, z1, z2, z3, z4, z5]) rfl (rr_none HN.out rfl HBf)
        have hl1 : ¬ (0 : Int) < lj.length := by omega
        have hle : lj = [] := List.eq_nil_of_length_eq_zero (by omega)
        have HRD2 : Hid (R = if validS (({ op := (op : Int), err := 0, items := [], IA := none, ik := 0, version := 0, count := (vj : Int), numbers := [], NA := none, nk := 0 } : Res)).r = true then some (({ op := (op : Int), err := 0, items := [], IA := none, ik := 0, version := 0, count := (vj : Int), numbers := [], NA := none, nk := 0 } : Res)).r else none) := by
          show _ = _; rw [HRD.out, hle]; unfold finS; simp
        clear HRD
        clear hl0 hl1
        subst hle
        simp only [List.length_nil] at x0
        have HV := Lib.hid (Sv.rvalid_any (({ op := (op : Int), err := 0, items := [], IA := none, ik := 0, version := 0, count := (vj : Int), numbers := [], NA := none, nk := 0 } : Res)) wq2 HGT.out.rc HGT.out.bnd)
        generalize validS (({ op := (op : Int), err := 0, items := [], IA := none, ik := 0, version := 0, count := (vj : Int), numbers := [], NA := none, nk := 0 } : Res)).r = vb at *
        unfold resV at HV
        obtain ⟨y0, y1, y2, y3, y4, y5, _⟩ := HGq2.out
        try simp only [List.length_nil, Int.natCast_zero] at HV y0 y1 y2 y3 y4 y5
        go_wp2_with fail
        with_reducible refine HV.out.mono ?_
        rintro e wv ⟨rfl, bv⟩
        have BOv := Lib.hid (HGq2.out.below bv (Nat.le_refl _))
        have GOv := Lib.hid (HGT.out.below bv (Nat.le_refl _))
        have BZv := Lib.hid ((HZq2.out).below bv (Nat.le_refl _))
        have HBv : Hid (Below C w wv) := (HBq2.out).trans (bv.mono (by have := (HBq2.out).size; have := HC.out; omega))
        clear bv y0 y1 y2 y3 y4 y5 x0 x1
        cases vb
        · have HN : Hid (R = none) := by show _ = _; rw [HRD2.out]; rfl
          obtain ⟨z0, z1, z2, z3, z4, z5, zun⟩ := BZv.out
          have zu0 := zun 0; have zu1 := zun 1; have zu2 := zun 2; have zu3 := zun 3; have zu4 := zun 4; have zu5 := zun 5
          have HBq := Lib.hid (HBv.out)
          clear zun
          go_wp2_with fail
          have HFz := put6 wv (C + 1) (.int .i64 0) (.int .i64 0) (.slice none 0 0) (.int .u64 0) (.int .i64 0) (.slice none 0 0)
          have HBf := HBq.out.trans (HFz.below (B := C) (fun j e => by omega) (by have h1 := HBq.out.size; have h2 := HC.out; omega))
          replace HBf := HBf.mono (show w.heap.size ≤ C by have h2 := HC.out; omega)
          exact bodyPost_ret (v := .tuple #[.agg #[.int .i64 0, .int .i64 0, .slice none 0 0, .int .u64 0, .int .i64 0, .slice none 0 0], .bool false]) (by simp [results, Try.results20, go_sem, z0, z1, z2, z3, z4, z5]) rfl (rr_none HN.out rfl HBf)
        obtain ⟨y0, y1, y2, y3, y4, y5, _⟩ := BOv.out
        obtain ⟨z0, z1, z2, z3, z4, z5, zun⟩ := BZv.out
        have zu0 := zun 0; have zu1 := zun 1; have zu2 := zun 2; have zu3 := zun 3; have zu4 := zun 4; have zu5 := zun 5
        clear zun
        have HSM : Hid (R = some (({ op := (op : Int), err := 0, items := [], IA := none, ik := 0, version := 0, count := (vj : Int), numbers := [], NA := none, nk := 0 } : Res)).r) := by show _ = _; rw [HRD2.out]; rfl
        have HGE : Hid (∃ q : Res, q = ({ op := (op : Int), err := 0, items := [], IA := none, ik := 0, version := 0, count := (vj : Int), numbers := [], NA := none, nk := 0 } : Res)) := ⟨_, rfl⟩
        obtain ⟨q, hq⟩ := HGE.out
        have f0 : q.op = (({ op := (op : Int), err := 0, items := [], IA := none, ik := 0, version := 0, count := (vj : Int), numbers := [], NA := none, nk := 0 } : Res)).op := by rw [hq]
        rw [← hq] at GOv HSM
        have w0c : wv.cell? ⟨G, 0, none⟩ = some (.int .i64 q.op) := by rw [hq]; exact y0
        have w1c : wv.cell? ⟨G, 1, none⟩ = some (.int .i64 q.err) := by rw [hq]; exact y1
        have w2c : wv.cell? ⟨G, 2, none⟩ = some (.slice q.IA q.items.length q.ik) := by rw [hq]; exact y2
        have w3c : wv.cell? ⟨G, 3, none⟩ = some (.int .u64 (q.version : Int)) := by rw [hq]; exact y3
        have w4c : wv.cell? ⟨G, 4, none⟩ = some (.int .i64 q.count) := by rw [hq]; exact y4
        have w5c : wv.cell? ⟨G, 5, none⟩ = some (.slice q.NA q.numbers.length q.nk) := by rw [hq]; exact y5
        clear y0 y1 y2 y3 y4 y5 hq f0 HGE BOv BZv
        go_wp2_with fail
        have HFz := put6 wv (C + 1) (.int .i64 q.op) (.int .i64 q.err) (.slice q.IA q.items.length q.ik) (.int .u64 (q.version : Int)) (.int .i64 q.count) (.slice q.NA q.numbers.length q.nk)
        have HGF := GOv.out.only HFz (fun j hj _ e => by omega)
        have HBf := HBv.out.trans (HFz.below (B := C) (fun j e => by omega) (by have h1 := HBv.out.size; have h2 := HC.out; omega))
        replace HBf := HBf.mono (show w.heap.size ≤ C by have h2 := HC.out; omega)
        exact bodyPost_ret (v := .tuple #[resV q, .bool true]) (by unfold resV; simp [results, Try.results20, go_sem, z0, z1, z2, z3, z4, z5]) rfl ⟨q, by rw [HSM.out]; rfl, HGF.mono (by have h2 := HC.out; omega), (fun c e => by rw [HSM.out] at e; injection e), (fun e => by rw [HSM.out] at e; cases e), HBf⟩
end Go.Proofs.Ythlfahblnpijaaa.Sr
