/- Proves what package request's Read returns. Conditions: the table is laid; few bytes. -/
import Derived.Test.YthlfahblnpijaaaDoorQcd
import Derived.Test.YthlfahblnpijaaaDoorQw
import Derived.Test.YthlfahblnpijaaaDoorFws
import Derived.Deep.Cut
namespace Go.Proofs.YthlfahblnpijaaaDoor.Qc
open Go.RowKit Vm Ap Vw Va Gc Mi Mb Qm Qs Qe
theorem Got.only {B : Nat} {w w' : World} {x : Com} (h : Got B w x) {F : Nat → Prop} (ho : Only F w w') (hF : ∀ j, B ≤ j → j < w.heap.size → ¬ F j) : Got B w' x :=
  ⟨h.rc.only ho (fun a ha => hF _ (h.bk a ha).1 (h.bk a ha).2) (fun a ha => hF _ (h.bv a ha).1 (h.bv a ha).2) (fun a ha => hF _ (h.bt a ha).1 (h.bt a ha).2), h.bnd, h.nk, h.nt,
    fun a ha => ⟨(h.bk a ha).1, Nat.lt_of_lt_of_le (h.bk a ha).2 ho.size⟩, fun a ha => ⟨(h.bv a ha).1, Nat.lt_of_lt_of_le (h.bv a ha).2 ho.size⟩, fun a ha => ⟨(h.bt a ha).1, Nat.lt_of_lt_of_le (h.bt a ha).2 ho.size⟩⟩
theorem Got.below {B B' : Nat} {w w' : World} {x : Com} (h : Got B w x) (hb : Below B' w w') (hB : w.heap.size ≤ B') : Got B w' x :=
  h.only (Only.of_below hb hB (fun _ => False)) (fun _ _ _ e => e)
theorem Got.mono {B B' : Nat} {w : World} {x : Com} (h : Got B w x) (hB : B' ≤ B) : Got B' w x :=
  ⟨h.rc, h.bnd, h.nk, h.nt, fun a ha => ⟨Nat.le_trans hB (h.bk a ha).1, (h.bk a ha).2⟩, fun a ha => ⟨Nat.le_trans hB (h.bv a ha).1, (h.bv a ha).2⟩, fun a ha => ⟨Nat.le_trans hB (h.bt a ha).1, (h.bt a ha).2⟩⟩
end Go.Proofs.YthlfahblnpijaaaDoor.Qc
namespace Go.Proofs.YthlfahblnpijaaaDoor.Qg
open Go.RowKit Vm Ap Vw Va Vc Vp Vn Vs Gc Mi Mb Qm Qs Qe Qd Qy Qc Fm Fw Qw

theorem bnd_bare (op : Int) (h1 : -9223372036854775808 ≤ op) (h2 : op ≤ 9223372036854775807) : Bnd (bare op) :=
  ⟨h1, h2, Nat.zero_le _, Nat.zero_le _, Nat.zero_le _, Nat.zero_le _, Nat.zero_le _, Nat.zero_le _, Nat.zero_le _, (fun s hs => by cases hs), (fun s hs => by cases hs), (by show 0 < 18446744073709551616; omega), (by show 0 < 18446744073709551616; omega)⟩
theorem got_zero (B : Nat) (w : World) : Got B w zeroC :=
  ⟨⟨Rd.nil _ _, fun _ => rfl, Rb.nil _ _, fun _ => rfl, Rd.nil _ _, fun _ => rfl⟩, bnd_bare 0 (by omega) (by omega), Nat.zero_le _, Nat.zero_le _, (fun a e => by cases e), (fun a e => by cases e), (fun a e => by cases e)⟩
/-- What Read leaves: a command in new memory, or an error. -/
def rdPost (w : World) (R : Option Cmd) : Ending → World → Prop := fun e w' =>
  ∃ x, e = .returned (.tuple #[comV x, .int .i64 (if R.isSome then 0 else 6)]) ∧ Got w.heap.size w' x ∧ (∀ c, R = some c → x.c = c) ∧ (R = none → x = zeroC) ∧ Below w.heap.size w w'
theorem rd_none {w w' : World} {R : Option Cmd} (h : R = none) {v : Value} (hv : v = .tuple #[.agg #[.int .i64 0, .string ⟨#[]⟩, .slice none 0 0, .slice none 0 0, .slice none 0 0, .int .u64 0, .int .u64 0, .string ⟨#[]⟩, .string ⟨#[]⟩, .string ⟨#[]⟩], .int .i64 6]) (hb : Below w.heap.size w w') : rdPost w R (.returned v) w' := by
  subst h; subst hv
  exact ⟨zeroC, rfl, got_zero _ _, (fun c e => by cases e), fun _ => rfl, hb⟩
theorem read_out {op : Int} {p : Bs} (h : ¬ inOp op = true) : readR op p = none := by
  unfold readR needs
  rw [if_neg h]
  simp only [rdAll]
  rw [if_neg]
  rintro ⟨_, hv⟩
  unfold validR at hv
  rw [Bool.and_eq_true] at hv
  exact h hv.1
theorem boxZ (w : World) (x : Com) {g : Nat} (h : Box w g x) : (∃ v, w.cell? ⟨g, 0, none⟩ = some v) := ⟨_, h.c0⟩

set_option maxRecDepth 100000 in
set_option maxHeartbeats 8000000 in
theorem read_any (c : UInt8) (A : Option Addr) (p : Bs) (d : Nat) (w : World) (he : Env w) (hA : Rb w A p) (hp : p.length ≤ 2000000) :
    Calls Tryd.prog 11 #[.agg #[.int .u8 (c.toNat : Int), .slice A p.length d]] w (rdPost w (readR (c.toNat : Int) p)) := by
  obtain ⟨w0, hw0⟩ : ∃ w0, w0 = (w.alloc (.cells #[.int .u8 (c.toNat : Int), .slice A p.length d] 31)).alloc (comO zeroC) := ⟨_, rfl⟩
  have B0 : Below w.heap.size w w0 := by rw [hw0]; exact two_below _ _ _
  have BZ : Box w0 (w.heap.size + 1) zeroC := by
    have hb := Box.new (w.alloc (.cells #[.int .u8 (c.toNat : Int), .slice A p.length d] 31)) zeroC
    have e : (w.alloc (.cells #[.int .u8 (c.toNat : Int), .slice A p.length d] 31)).heap.size = w.heap.size + 1 := by simp
    rw [e] at hb
    rw [hw0]; exact hb
  have CF : Cel w0 w.heap.size (.int .u8 (c.toNat : Int)) (.slice A p.length d) := by rw [hw0]; exact (Cel.new w _ _ _).below (alloc_below _ _) (Nat.le_refl _)
  have e0 : comO zeroC = .cells #[.int .i64 0, .string ⟨#[]⟩, .slice none 0 0, .slice none 0 0, .slice none 0 0, .int .u64 0, .int .u64 0, .string ⟨#[]⟩, .string ⟨#[]⟩, .string ⟨#[]⟩] 43 := rfl
  rw [e0] at hw0
  clear e0
  have hz0 : w.heap.size + 2 ≤ w0.heap.size := by rw [hw0]; simp
  have HB0 := Lib.hid B0
  have HBZ := Lib.hid BZ
  have HCF := Lib.hid CF
  have HS := Lib.hid (fsize_ok c A p d w0 (by omega))
  have HE := Lib.hid (he.below B0 (Nat.le_refl _))
  have HA0 := Lib.hid (hA.below B0 (Nat.le_refl _))
  have hc := c.toNat_lt
  unfold twoPost at HS
  generalize ((wire c p).length : Int) = fz at *
  clear B0 BZ CF hA he
  have HK := Lib.hid (fun W => known_op (c.toNat : Int) W)
  by_cases h : inOp (c.toNat : Int) = true
  · have HH := Lib.hid h
    clear h
    go_enter Tryd.func11, Tryd.ntmps11
    go_wp2_with fail
    rw [← hw0]
    clear hw0
    refine HS.out.mono ?_
    rintro e w1 ⟨rfl, b1⟩
    have B1 := Lib.hid b1
    clear b1
    go_wp2_with fail
    refine (HK.out _).mono ?_
    rintro e wx ⟨rfl, rfl⟩
    rw [HH.out]
    obtain ⟨q0, q1, qf0, qf1⟩ := HCF.out.below B1.out (Nat.le_refl _)
    go_wp2_with fail
    refine (new_any A p d w1 (HA0.out.below B1.out (Nat.le_refl _)) (by omega)).mono ?_
    rintro e w2 ⟨g, rfl, hr, b2⟩
    have hg1 : w1.heap.size ≤ g := by obtain ⟨_, _, _, h2, _⟩ := hr; exact h2
    have hg2 := hr.lt
    have RQ : Hid (Rq w1.heap.size (w2.alloc (.cells #[.pointer (some ⟨g, 0, none⟩), .bool false] 75)) g w2.heap.size (some p)) :=
      ⟨heap_alloc_new _ _, p, hr.below (alloc_below _ _) (Nat.le_refl _), by omega, fun l' e => by injection e with e; exact e.symm⟩
    have hz1 := B1.out.size
    have B02 : Hid (Below w0.heap.size w0 w2) := B1.out.trans (b2.mono B1.out.size)
    have B2 : Hid (Below w0.heap.size w0 (w2.alloc (.cells #[.pointer (some ⟨g, 0, none⟩), .bool false] 75))) := B02.out.alloc B02.out.size _
    clear hr b2 q0 q1 qf0 qf1
    go_wp2_with fail
    obtain ⟨w3, hw3⟩ : ∃ w3, w3 = w2.alloc (.cells #[.pointer (some ⟨g, 0, none⟩), .bool false] 75) := ⟨_, rfl⟩
    have hz3 : w2.heap.size < w3.heap.size := by rw [hw3]; simp
    rw [← hw3] at RQ B2 ⊢
    clear hw3
    refine (command_any _ _ HH.out p w3 g w2.heap.size (HE.out.below B2.out (Nat.le_refl _)) RQ.out).mono ?_
    rintro e w4 ⟨x, rfl, hgot, hx, hrq, ho⟩
    unfold comV
    have hgl : w.heap.size + 1 < g := by omega
    have hgh : w.heap.size + 1 < w2.heap.size := by omega
    have BZ4 := Lib.hid (((HBZ.out.below B2.out (Nat.le_refl _))).only ho (by intro e; rcases e with e | e <;> omega))
    have BW4 : Hid (Below w.heap.size w w4) := (HB0.out.trans (B2.out.mono HB0.out.size)).trans (ho.below (fun j e => by rcases e with e | e <;> omega) (by have := (HB0.out.trans (B2.out.mono HB0.out.size)).size; omega))
    have BZ5 := Lib.hid (BZ4.out.below (alloc_below w4 (comO x)) (Nat.le_refl _))
    have BW5 : Hid (Below w.heap.size w (w4.alloc (comO x))) := BW4.out.alloc BW4.out.size _
    have BX5 := Lib.hid (Box.new w4 x)
    have GT5 := Lib.hid (hgot.below (alloc_below w4 (comO x)) (Nat.le_refl _))
    have RQ5 := Lib.hid (hrq.below (alloc_below w4 (comO x)) (Nat.le_refl _))
    have HE5 : Hid (Env (w4.alloc (comO x))) := by
      have e3 := HE.out.below B2.out (Nat.le_refl _)
      have hs := HE.out.size
      obtain ⟨t, fr, hf⟩ := e3.tab
      exact (show Env w4 from ⟨⟨t, fr, by rw [ho.block _ e3.size (by intro e; rcases e with e | e <;> omega)]; exact hf⟩⟩).below (alloc_below _ _) (Nat.le_refl _)
    have HX := Lib.hid hx
    have hl4 : w.heap.size + 1 < w4.heap.size := BZ4.out.lt
    have hl4h : w2.heap.size < w4.heap.size := hrq.lt
    have hl4g : g < w4.heap.size := by omega
    have cel := RQ5.out.cel
    have e5 : comO x = .cells #[.int .i64 x.c.op, .string ⟨x.c.key.toArray⟩, .slice x.KA x.c.keys.length x.kc, .slice x.VA x.c.value.length x.vc, .slice x.TA x.c.tags.length x.tc, .int .u64 (x.c.life : Int), .int .u64 (x.c.version : Int), .string ⟨x.c.tag.toArray⟩, .string ⟨x.c.pre.toArray⟩, .string ⟨x.c.child.toArray⟩] 43 := rfl
    rw [e5] at BZ5 BW5 BX5 GT5 RQ5 HE5 cel
    obtain ⟨w5, hw5⟩ : ∃ w5, w5 = (w4.alloc (.cells #[.int .i64 x.c.op, .string ⟨x.c.key.toArray⟩, .slice x.KA x.c.keys.length x.kc, .slice x.VA x.c.value.length x.vc, .slice x.TA x.c.tags.length x.tc, .int .u64 (x.c.life : Int), .int .u64 (x.c.version : Int), .string ⟨x.c.tag.toArray⟩, .string ⟨x.c.pre.toArray⟩, .string ⟨x.c.child.toArray⟩] 43)) := ⟨_, rfl⟩
    have hw5s : w5.heap.size = w4.heap.size + 1 := by rw [hw5]; simp
    rw [← hw5] at BZ5 BW5 BX5 GT5 RQ5 HE5 cel
    have hz34 : w.heap.size + 2 ≤ w3.heap.size := by have := B2.out.size; omega
    have ho4 := ho.size
    clear hgot hx hrq ho RQ B02 HA0 e5
    go_upto_region 7 with fail
    rw [← hw5]
    clear hw5
    cases hR : rdAll (needs (c.toNat : Int)) (bare (c.toNat : Int)) p with
    | none =>
      have HP : Hid (readR (c.toNat : Int) p = none) := by show _ = _; unfold readR; rw [hR]
      rw [hR] at cel
      obtain ⟨x0, x1, f0, f1⟩ := cel
      simp only [Option.map_none, Option.isNone_none] at x1
      obtain ⟨z0, z1, z2, z3, z4, z5, z6, z7, z8, z9, zun⟩ := BZ5.out
      have zu0 := zun 0
      have zu1 := zun 1
      have zu2 := zun 2
      have zu3 := zun 3
      have zu4 := zun 4
      have zu5 := zun 5
      have zu6 := zun 6
      have zu7 := zun 7
      have zu8 := zun 8
      have zu9 := zun 9
      clear hR
      go_wp2_with fail
      have HF := put10 w5 (w.heap.size + 1) (.int .i64 0) (.string ⟨#[]⟩) (.slice none 0 0) (.slice none 0 0) (.slice none 0 0) (.int .u64 0) (.int .u64 0) (.string ⟨#[]⟩) (.string ⟨#[]⟩) (.string ⟨#[]⟩)
      have HFB := HF.below (B := w.heap.size) (fun j e => by omega) BW5.out.size
      exact bodyPost_ret (v := .tuple #[.agg #[.int .i64 0, .string ⟨#[]⟩, .slice none 0 0, .slice none 0 0, .slice none 0 0, .int .u64 0, .int .u64 0, .string ⟨#[]⟩, .string ⟨#[]⟩, .string ⟨#[]⟩], .int .i64 6]) (by simp [results, Tryd.results11, go_sem, z0, z1, z2, z3, z4, z5, z6, z7, z8, z9]) rfl (rd_none HP.out rfl (BW5.out.trans HFB))
    | some q =>
      obtain ⟨c0, r⟩ := q
      have hxc := HX.out (c0, r) hR
      simp only at hxc
      subst hxc
      rw [hR] at cel RQ5
      obtain ⟨x0, x1, f0, f1⟩ := cel
      simp only [Option.map_some, Option.isNone_some] at x1
      obtain ⟨l5, hr5, _, hl5⟩ := RQ5.out.rd
      obtain rfl := hl5 r rfl
      have HL := Lib.hid (left_any w1.heap.size _ g r hr5)
      have HR := Lib.hid hR
      have HV := Lib.hid (valid_any x _ HE5.out GT5.out.rc GT5.out.bnd)
      unfold comV at HV
      clear hR hr5 hl5 RQ5
      by_cases hr0 : 0 < r.length
      · have HP : Hid (readR (c.toNat : Int) p = none) := by
          show _ = _
          unfold readR
          rw [HR.out]
          simp only
          rw [if_neg (fun e => by rw [e.1] at hr0; simp at hr0)]
        have hr1 : (0 : Int) < r.length := by omega
        obtain ⟨z0, z1, z2, z3, z4, z5, z6, z7, z8, z9, zun⟩ := BZ5.out
        have zu0 := zun 0
        have zu1 := zun 1
        have zu2 := zun 2
        have zu3 := zun 3
        have zu4 := zun 4
        have zu5 := zun 5
        have zu6 := zun 6
        have zu7 := zun 7
        have zu8 := zun 8
        have zu9 := zun 9
        go_wp2_with fail
        refine HL.out.mono ?_
        rintro e wy ⟨rfl, rfl⟩
        go_wp2_with fail
        have HF := put10 w5 (w.heap.size + 1) (.int .i64 0) (.string ⟨#[]⟩) (.slice none 0 0) (.slice none 0 0) (.slice none 0 0) (.int .u64 0) (.int .u64 0) (.string ⟨#[]⟩) (.string ⟨#[]⟩) (.string ⟨#[]⟩)
        have HFB := HF.below (B := w.heap.size) (fun j e => by omega) BW5.out.size
        exact bodyPost_ret (v := .tuple #[.agg #[.int .i64 0, .string ⟨#[]⟩, .slice none 0 0, .slice none 0 0, .slice none 0 0, .int .u64 0, .int .u64 0, .string ⟨#[]⟩, .string ⟨#[]⟩, .string ⟨#[]⟩], .int .i64 6]) (by simp [results, Tryd.results11, go_sem, z0, z1, z2, z3, z4, z5, z6, z7, z8, z9]) rfl (rd_none HP.out rfl (BW5.out.trans HFB))
      · have hr1 : ¬ (0 : Int) < r.length := by omega
        have hrn : r = [] := List.eq_nil_of_length_eq_zero (by omega)
        have HRN := Lib.hid hrn
        clear hrn hr0
        by_cases hv : validG x.c = true
        · have HP : Hid (readR (c.toNat : Int) p = some x.c) := by
            show _ = _
            unfold readR
            rw [HR.out]
            simp only
            rw [if_pos ⟨HRN.out, (valid_same x.c).trans hv⟩]
          rw [hv] at HV
          clear hv
          obtain ⟨k0, k1, k2, k3, k4, k5, k6, k7, k8, k9, kun⟩ := BX5.out
          go_wp2_with fail
          refine HL.out.mono ?_
          rintro e wy ⟨rfl, rfl⟩
          go_wp2_with fail
          refine HV.out.mono ?_
          rintro e w6 ⟨rfl, b6⟩
          have BW6 : Hid (Below w.heap.size w w6) := BW5.out.trans (b6.mono BW5.out.size)
          obtain ⟨z0, z1, z2, z3, z4, z5, z6, z7, z8, z9, zun⟩ := BZ5.out.below b6 (Nat.le_refl _)
          have zu0 := zun 0
          have zu1 := zun 1
          have zu2 := zun 2
          have zu3 := zun 3
          have zu4 := zun 4
          have zu5 := zun 5
          have zu6 := zun 6
          have zu7 := zun 7
          have zu8 := zun 8
          have zu9 := zun 9
          have GT6 := Lib.hid (GT5.out.below b6 (Nat.le_refl _))
          obtain ⟨y0, y1, y2, y3, y4, y5, y6, y7, y8, y9, yun⟩ := BX5.out.below b6 (Nat.le_refl _)
          clear b6
          go_wp2_with fail
          have HF := put10 w6 (w.heap.size + 1) (.int .i64 x.c.op) (.string ⟨x.c.key.toArray⟩) (.slice x.KA x.c.keys.length x.kc) (.slice x.VA x.c.value.length x.vc) (.slice x.TA x.c.tags.length x.tc) (.int .u64 (x.c.life : Int)) (.int .u64 (x.c.version : Int)) (.string ⟨x.c.tag.toArray⟩) (.string ⟨x.c.pre.toArray⟩) (.string ⟨x.c.child.toArray⟩)
          have HFB := HF.below (B := w.heap.size) (fun j e => by omega) BW6.out.size
          exact bodyPost_ret (v := .tuple #[.agg #[.int .i64 x.c.op, .string ⟨x.c.key.toArray⟩, .slice x.KA x.c.keys.length x.kc, .slice x.VA x.c.value.length x.vc, .slice x.TA x.c.tags.length x.tc, .int .u64 (x.c.life : Int), .int .u64 (x.c.version : Int), .string ⟨x.c.tag.toArray⟩, .string ⟨x.c.pre.toArray⟩, .string ⟨x.c.child.toArray⟩], .int .i64 0]) (by simp [results, Tryd.results11, go_sem, z0, z1, z2, z3, z4, z5, z6, z7, z8, z9]) rfl (by rw [HP.out]; exact (⟨x, rfl, ((GT6.out.only HF (fun j h1 h2 e => by omega)).mono (by omega)), (fun c e => by injection e), (fun e => by cases e), BW6.out.trans HFB⟩ : rdPost w (some x.c) _ _))
        · have HP : Hid (readR (c.toNat : Int) p = none) := by
            show _ = _
            unfold readR
            rw [HR.out]
            simp only
            rw [if_neg (fun e => hv ((valid_same x.c).symm.trans e.2))]
          rw [show validG x.c = false by simpa using hv] at HV
          clear hv
          obtain ⟨k0, k1, k2, k3, k4, k5, k6, k7, k8, k9, kun⟩ := BX5.out
          go_wp2_with fail
          refine HL.out.mono ?_
          rintro e wy ⟨rfl, rfl⟩
          go_wp2_with fail
          refine HV.out.mono ?_
          rintro e w6 ⟨rfl, b6⟩
          have BW6 : Hid (Below w.heap.size w w6) := BW5.out.trans (b6.mono BW5.out.size)
          obtain ⟨z0, z1, z2, z3, z4, z5, z6, z7, z8, z9, zun⟩ := BZ5.out.below b6 (Nat.le_refl _)
          have zu0 := zun 0
          have zu1 := zun 1
          have zu2 := zun 2
          have zu3 := zun 3
          have zu4 := zun 4
          have zu5 := zun 5
          have zu6 := zun 6
          have zu7 := zun 7
          have zu8 := zun 8
          have zu9 := zun 9
          clear b6
          go_wp2_with fail
          have HF := put10 w6 (w.heap.size + 1) (.int .i64 0) (.string ⟨#[]⟩) (.slice none 0 0) (.slice none 0 0) (.slice none 0 0) (.int .u64 0) (.int .u64 0) (.string ⟨#[]⟩) (.string ⟨#[]⟩) (.string ⟨#[]⟩)
          have HFB := HF.below (B := w.heap.size) (fun j e => by omega) BW6.out.size
          exact bodyPost_ret (v := .tuple #[.agg #[.int .i64 0, .string ⟨#[]⟩, .slice none 0 0, .slice none 0 0, .slice none 0 0, .int .u64 0, .int .u64 0, .string ⟨#[]⟩, .string ⟨#[]⟩, .string ⟨#[]⟩], .int .i64 6]) (by simp [results, Tryd.results11, go_sem, z0, z1, z2, z3, z4, z5, z6, z7, z8, z9]) rfl (rd_none HP.out rfl (BW6.out.trans HFB))
  · have HP := Lib.hid (read_out (p := p) h)
    have HH : Hid (inOp (c.toNat : Int) = false) := by show _ = _; simpa using h
    clear h
    go_enter Tryd.func11, Tryd.ntmps11
    go_wp2_with fail
    rw [← hw0]
    clear hw0
    refine HS.out.mono ?_
    rintro e w1 ⟨rfl, b1⟩
    have BW1 : Hid (Below w.heap.size w w1) := HB0.out.trans (b1.mono HB0.out.size)
    obtain ⟨z0, z1, z2, z3, z4, z5, z6, z7, z8, z9, zun⟩ := HBZ.out.below b1 (Nat.le_refl _)
    have zu0 := zun 0
    have zu1 := zun 1
    have zu2 := zun 2
    have zu3 := zun 3
    have zu4 := zun 4
    have zu5 := zun 5
    have zu6 := zun 6
    have zu7 := zun 7
    have zu8 := zun 8
    have zu9 := zun 9
    clear b1
    go_wp2_with fail
    refine (HK.out _).mono ?_
    rintro e wx ⟨rfl, rfl⟩
    rw [HH.out]
    go_wp2_with fail
    have HF := put10 w1 (w.heap.size + 1) (.int .i64 0) (.string ⟨#[]⟩) (.slice none 0 0) (.slice none 0 0) (.slice none 0 0) (.int .u64 0) (.int .u64 0) (.string ⟨#[]⟩) (.string ⟨#[]⟩) (.string ⟨#[]⟩)
    have HFB := HF.below (B := w.heap.size) (fun j e => by omega) BW1.out.size
    exact bodyPost_ret (v := .tuple #[.agg #[.int .i64 0, .string ⟨#[]⟩, .slice none 0 0, .slice none 0 0, .slice none 0 0, .int .u64 0, .int .u64 0, .string ⟨#[]⟩, .string ⟨#[]⟩, .string ⟨#[]⟩], .int .i64 6]) (by simp [results, Tryd.results11, go_sem, z0, z1, z2, z3, z4, z5, z6, z7, z8, z9]) rfl (rd_none HP.out rfl (BW1.out.trans HFB))
end Go.Proofs.YthlfahblnpijaaaDoor.Qg
