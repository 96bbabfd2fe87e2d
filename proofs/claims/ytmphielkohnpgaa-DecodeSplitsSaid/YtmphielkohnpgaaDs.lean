/- Proves what the specification's Next and Need of a decoder return. Conditions: few bytes. -/
import Derived.Test.YtmphielkohnpgaaDr
namespace Go.Proofs.Ytmphielkohnpgaa.Ds
open Go.RowKit Vm Ap Vw Va Vg Vgr Gc Fm Fw Mi Mb Fr Frr Dm Dn De Dr

/-- What Next leaves. -/
def rnextPost (w : World) (m : Int) (A : Option Addr) (c : Nat) (s : St) : Ending → World → Prop := fun e w' =>
  ∃ A' c' V vc, e = .returned (.tuple #[.agg #[.int .i64 m, .slice A' (nxS m s).held.length c', .bool (nxS m s).shut], .agg #[.int .u8 ((nxG m s).1.toNat : Int), .slice V (nxG m s).2.1.length vc], .int .i64 ((nxG m s).2.2 : Int)]) ∧
    (∀ W, Arg W A s.held c → Arg W A' (nxS m s).held c') ∧ (∀ N, From A A' N) ∧ Fre w.heap.size w' V (nxG m s).2.1 vc ∧ Below w.heap.size w w'
theorem three_below (w : World) (o p q : Obj) : Below w.heap.size w (((w.alloc o).alloc p).alloc q) := (two_below w o p).alloc (by simp; omega) q
theorem fre_only {B : Nat} {w w' : World} {V : Option Addr} {p : Bs} {vc : Nat} (h : Fre B w V p vc) {F : Nat → Prop} (ho : Only F w w') (hn : ∀ a, V = some a → ¬ F a.block) : Fre B w' V p vc :=
  ⟨rb_only h.rd ho hn, h.non, fun a ha => ⟨(h.base a ha).1, Nat.lt_of_lt_of_le (h.base a ha).2 ho.size⟩⟩
theorem fre_mono {B B' : Nat} {w : World} {V : Option Addr} {p : Bs} {vc : Nat} (h : Fre B w V p vc) (hB : B' ≤ B) : Fre B' w V p vc := ⟨h.rd, h.non, fun a ha => ⟨Nat.le_trans hB (h.base a ha).1, (h.base a ha).2⟩⟩
set_option maxRecDepth 100000 in
set_option maxHeartbeats 4000000 in
theorem rnext_any {w : World} {m : Int} {A : Option Addr} {s : St} {n0 c : Nat} {b : Bool} (hn0 : s.held.length = n0) (hb0 : s.shut = b) (hm : okM m) (h : Arg w A s.held c) (hs : s.held.length ≤ 100000000) :
    Calls Try.prog 14 #[.agg #[.int .i64 m, .slice A n0 c, .bool b]] w (rnextPost w m A c s) := by
  subst hn0
  have hm1 : 0 ≤ m := by unfold okM at hm; omega
  have hm2 : m ≤ 2097152 := by unfold okM at hm; omega
  have hcm := h.max
  unfold maxLen at hcm
  have hlen := h.le
  cases b
  case true =>
    have HG : Hid (nxG m s = (0, [], 14)) := by show _ = _; unfold nxG; rw [hb0]; rfl
    have HS : Hid (nxS m s = s) := by show _ = _; unfold nxS; rw [hb0]; rfl
    have HA := Lib.hid h
    clear h
    go_enter Try.func14, Try.ntmps14
    go_wp2_with fail
    have HBF := three_below w (.cells #[.int .i64 m, .slice A s.held.length c, .bool true] 31) (.cells #[.int .i64 m, .slice A s.held.length c, .bool true] 31) (.cells #[.int .u8 0, .slice none 0 0] 39)
    refine bodyPost_ret (v := .tuple #[.agg #[.int .i64 m, .slice A s.held.length c, .bool true], .agg #[.int .u8 0, .slice none 0 0], .int .i64 14]) (by simp [results, Try.results14, go_sem]) rfl ⟨A, c, none, 0, by rw [HG.out, HS.out, hb0]; rfl, by rw [HS.out]; exact fun _ h => h, fun _ => From.same _ _, by rw [HG.out]; exact Fre.nil _ _, HBF⟩
  case false =>
    obtain ⟨w0, hw0⟩ : ∃ w0, w0 = ((w.alloc (.cells #[.int .i64 m, .slice A s.held.length c, .bool false] 31)).alloc (.cells #[.int .i64 0, .slice none 0 0, .bool false] 31)).alloc (.cells #[.int .u8 0, .slice none 0 0] 39) := ⟨_, rfl⟩
    have B0 : Below w.heap.size w w0 := by rw [hw0]; exact three_below _ _ _ _
    have HZ : Hid (w0.heap.size = w.heap.size + 1 + 1 + 1) := by show _ = _; rw [hw0]; simp
    have ca : Cel3 w0 w.heap.size (.int .i64 m) (.slice A s.held.length c) (.bool false) := by rw [hw0]; exact (Cel3.new w _ _ _ _).below (two_below _ _ _) (Nat.le_refl _)
    have cb : Cel3 w0 (w.heap.size + 1) (.int .i64 0) (.slice none 0 0) (.bool false) := by
      have := (Cel3.new (w.alloc (.cells #[.int .i64 m, .slice A s.held.length c, .bool false] 31)) (.int .i64 0) (.slice none 0 0) (.bool false) 31).below (below_new _ (.cells #[.int .u8 0, .slice none 0 0] 39)) (Nat.le_refl _)
      rw [hw0]; simpa using this
    have cc : Cel w0 (w.heap.size + 1 + 1) (.int .u8 0) (.slice none 0 0) := by
      have := Cel.new ((w.alloc (.cells #[.int .i64 m, .slice A s.held.length c, .bool false] 31)).alloc (.cells #[.int .i64 0, .slice none 0 0, .bool false] 31)) (.int .u8 0) (.slice none 0 0) 39
      rw [hw0]; simpa using this
    have HA := Lib.hid (arg_below h B0 (Nat.le_refl _))
    have HW := Lib.hid h
    have HB0 := Lib.hid B0; have CA := Lib.hid ca; have CB := Lib.hid cb; have CC := Lib.hid cc
    obtain ⟨⟨cd, p, sz, er⟩, hr⟩ : ∃ r, readV s.held m = r := ⟨_, rfl⟩
    have HR := Lib.hid hr
    have HG := Lib.hid (rread_any A s.held c m w0 HA.out.rd (by omega) hlen (by omega) (by omega))
    rw [hr] at HG
    have HM := Lib.hid hm
    clear hr h B0 ca cb cc
    go_enter Try.func14, Try.ntmps14
    go_wp2_with fail
    rw [← hw0]
    clear hw0
    refine HG.out.mono ?_
    rintro e w1 ⟨V, vc, rfl, hf, hb⟩
    have HV := Lib.hid hf; have HB := Lib.hid hb
    obtain ⟨a0, a1, a2, af0, af1, af2⟩ := CA.out.below hb (Nat.le_refl _)
    obtain ⟨b0, b1, b2, bf0, bf1, bf2⟩ := CB.out.below hb (Nat.le_refl _)
    obtain ⟨d0, d1, df0, df1⟩ := CC.out.below hb (Nat.le_refl _)
    have hz1 : w.heap.size + 1 + 1 < w1.heap.size := by have := hb.size; have := HZ.out; omega
    have n1 : ¬ w.heap.size = w1.heap.size := by omega
    have n2 : ¬ w.heap.size + 1 = w1.heap.size := by omega
    have n3 : ¬ w.heap.size + 1 + 1 = w1.heap.size := by omega
    have l1 : w.heap.size < w1.heap.size := by omega
    have l2 : w.heap.size + 1 < w1.heap.size := by omega
    have HNG : Hid (nxG m s = (cd, p, er)) := by show _ = _; unfold nxG; rw [hb0, HR.out]; rfl
    have HNS : Hid (nxS m s = if er = 0 then ⟨s.held.drop sz, false⟩ else if er = 6 then ⟨s.held.drop 1, false⟩ else if er = 5 then ⟨[], true⟩ else s) := by show _ = _; unfold nxS; rw [hb0, HR.out]; rfl
    have HA1 := Lib.hid (arg_below HA.out hb (Nat.le_refl _))
    clear hf hb
    have HBW : Hid (Below w.heap.size w w1) := HB0.out.trans (HB.out.mono HB0.out.size)
    have hzz := HZ.out
    rcases read_errs s.held HM.out with ⟨e0, hs0, hsl, hpl⟩ | ⟨_, e4⟩ | ⟨_, e5⟩ | ⟨_, e6, hpos⟩
    case inl =>
      rw [HR.out] at e0 hs0 hsl
      simp only at e0 hs0 hsl
      subst e0
      obtain ⟨b, o, rfl, _, _⟩ := HA1.out.rd (by omega)
      clear hpl
      have HCT := Lib.hid (fun (W : World) (h : Arg W (some ⟨b, o, none⟩) s.held c) => arg_cut h sz hsl)
      have HFR := Lib.hid (fun N => From.cut (some ⟨b, o, none⟩) sz c N)
      by_cases hcs : c = sz
      · subst hcs
        have hl0 : s.held.length = c := by omega
        simp only [cut_same, Nat.sub_self] at HCT
        simp only [cut_same] at HFR
        go_wp2_with fail
        go_region
        all_goals
          go_wp2_with fail
          refine bodyPost_ret (v := .tuple #[.agg #[.int .i64 m, .slice (some ⟨b, o, none⟩) 0 0, .bool false], .agg #[.int .u8 (cd.toNat : Int), .slice V p.length vc], .int .i64 0]) (by simp [results, Try.results14, go_sem, b0, b1, b2, d0, d1, l2, hz1]) rfl ⟨(some ⟨b, o, none⟩), 0, V, vc, by rw [HNG.out, HNS.out]; simp; omega, ?_, ?_, ?_, ?_⟩
          · rw [HNS.out]
            exact HCT.out
          · exact HFR.out
          · rw [HNG.out]
            refine fre_mono (fre_only HV.out (F := fun j => j < w0.heap.size ∨ w1.heap.size ≤ j) ?_ (fun a ha hf => by have := HV.out.base a ha; omega)) HB0.out.size
            repeat' (first | with_reducible exact Only.refl _ _ | with_reducible apply Only.drew | with_reducible apply Only.drewN | with_reducible apply Only.alloc | with_reducible refine Only.put ?_ (by dsimp only; omega) _)
          · repeat' (first | with_reducible exact HBW.out | with_reducible apply Below.drew | with_reducible apply Below.drewN | with_reducible refine Below.alloc ?_ (by simp; omega) _ | with_reducible refine Below.setCell ?_ (by dsimp only; omega) _)
      · simp only [cut_more _ _ hcs] at HCT HFR
        go_wp2_with fail
        go_region
        all_goals
          go_wp2_with fail
          refine bodyPost_ret (v := .tuple #[.agg #[.int .i64 m, .slice (some ⟨b, o + sz, none⟩) (s.held.length - sz) (c - sz), .bool false], .agg #[.int .u8 (cd.toNat : Int), .slice V p.length vc], .int .i64 0]) (by simp [results, Try.results14, go_sem, b0, b1, b2, d0, d1, l2, hz1]) rfl ⟨(some ⟨b, o + sz, none⟩), (c - sz), V, vc, by rw [HNG.out, HNS.out]; simp, ?_, ?_, ?_, ?_⟩
          · rw [HNS.out]
            exact HCT.out
          · exact HFR.out
          · rw [HNG.out]
            refine fre_mono (fre_only HV.out (F := fun j => j < w0.heap.size ∨ w1.heap.size ≤ j) ?_ (fun a ha hf => by have := HV.out.base a ha; omega)) HB0.out.size
            repeat' (first | with_reducible exact Only.refl _ _ | with_reducible apply Only.drew | with_reducible apply Only.drewN | with_reducible apply Only.alloc | with_reducible refine Only.put ?_ (by dsimp only; omega) _)
          · repeat' (first | with_reducible exact HBW.out | with_reducible apply Below.drew | with_reducible apply Below.drewN | with_reducible refine Below.alloc ?_ (by simp; omega) _ | with_reducible refine Below.setCell ?_ (by dsimp only; omega) _)
    case inr.inl =>
      rw [HR.out] at e4
      simp only [Prod.mk.injEq] at e4
      obtain ⟨rfl, rfl, rfl, rfl⟩ := e4
      go_wp2_with fail
      go_region
      all_goals
        go_wp2_with fail
        refine bodyPost_ret (v := .tuple #[.agg #[.int .i64 m, .slice A s.held.length c, .bool false], .agg #[.int .u8 0, .slice V 0 vc], .int .i64 4]) (by simp [results, Try.results14, go_sem, b0, b1, b2, d0, d1, l2, hz1]) rfl ⟨A, c, V, vc, by rw [HNG.out, HNS.out]; simp [hb0], ?_, ?_, ?_, ?_⟩
        · rw [HNS.out]
          exact fun _ h => h
        · exact fun _ => From.same _ _
        · rw [HNG.out]
          refine fre_mono (fre_only HV.out (F := fun j => j < w0.heap.size ∨ w1.heap.size ≤ j) ?_ (fun a ha hf => by have := HV.out.base a ha; omega)) HB0.out.size
          repeat' (first | with_reducible exact Only.refl _ _ | with_reducible apply Only.drew | with_reducible apply Only.drewN | with_reducible apply Only.alloc | with_reducible refine Only.put ?_ (by dsimp only; omega) _)
        · repeat' (first | with_reducible exact HBW.out | with_reducible apply Below.drew | with_reducible apply Below.drewN | with_reducible refine Below.alloc ?_ (by simp; omega) _ | with_reducible refine Below.setCell ?_ (by dsimp only; omega) _)
    case inr.inr.inl =>
      rw [HR.out] at e5
      simp only [Prod.mk.injEq] at e5
      obtain ⟨rfl, rfl, rfl, rfl⟩ := e5
      go_wp2_with fail
      go_region
      all_goals
        go_wp2_with fail
        refine bodyPost_ret (v := .tuple #[.agg #[.int .i64 m, .slice none 0 0, .bool true], .agg #[.int .u8 0, .slice V 0 vc], .int .i64 5]) (by simp [results, Try.results14, go_sem, b0, b1, b2, d0, d1, l2, hz1]) rfl ⟨none, 0, V, vc, by rw [HNG.out, HNS.out]; simp, ?_, ?_, ?_, ?_⟩
        · rw [HNS.out]
          exact fun _ _ => ⟨Rb.nil _ _, Nat.le_refl _, Nat.zero_le _, fun _ => rfl⟩
        · exact fun _ => From.none _ _
        · rw [HNG.out]
          refine fre_mono (fre_only HV.out (F := fun j => j < w0.heap.size ∨ w1.heap.size ≤ j) ?_ (fun a ha hf => by have := HV.out.base a ha; omega)) HB0.out.size
          repeat' (first | with_reducible exact Only.refl _ _ | with_reducible apply Only.drew | with_reducible apply Only.drewN | with_reducible apply Only.alloc | with_reducible refine Only.put ?_ (by dsimp only; omega) _)
        · repeat' (first | with_reducible exact HBW.out | with_reducible apply Below.drew | with_reducible apply Below.drewN | with_reducible refine Below.alloc ?_ (by simp; omega) _ | with_reducible refine Below.setCell ?_ (by dsimp only; omega) _)
    case inr.inr.inr =>
      rw [HR.out] at e6
      simp only [Prod.mk.injEq] at e6
      obtain ⟨rfl, rfl, rfl, rfl⟩ := e6
      obtain ⟨b, o, rfl, _, _⟩ := HA1.out.rd hpos
      have HCT := Lib.hid (fun (W : World) (h : Arg W (some ⟨b, o, none⟩) s.held c) => arg_cut h 1 hpos)
      have HFR := Lib.hid (fun N => From.cut (some ⟨b, o, none⟩) 1 c N)
      by_cases hcs : c = 1
      · subst hcs
        have hl0 : s.held.length = 1 := by omega
        simp only [cut_same, Nat.sub_self] at HCT
        simp only [cut_same] at HFR
        go_wp2_with fail
        go_region
        all_goals
          go_wp2_with fail
          refine bodyPost_ret (v := .tuple #[.agg #[.int .i64 m, .slice (some ⟨b, o, none⟩) 0 0, .bool false], .agg #[.int .u8 0, .slice V 0 vc], .int .i64 6]) (by simp [results, Try.results14, go_sem, b0, b1, b2, d0, d1, l2, hz1]) rfl ⟨(some ⟨b, o, none⟩), 0, V, vc, by rw [HNG.out, HNS.out]; simp; omega, ?_, ?_, ?_, ?_⟩
          · rw [HNS.out]
            exact HCT.out
          · exact HFR.out
          · rw [HNG.out]
            refine fre_mono (fre_only HV.out (F := fun j => j < w0.heap.size ∨ w1.heap.size ≤ j) ?_ (fun a ha hf => by have := HV.out.base a ha; omega)) HB0.out.size
            repeat' (first | with_reducible exact Only.refl _ _ | with_reducible apply Only.drew | with_reducible apply Only.drewN | with_reducible apply Only.alloc | with_reducible refine Only.put ?_ (by dsimp only; omega) _)
          · repeat' (first | with_reducible exact HBW.out | with_reducible apply Below.drew | with_reducible apply Below.drewN | with_reducible refine Below.alloc ?_ (by simp; omega) _ | with_reducible refine Below.setCell ?_ (by dsimp only; omega) _)
      · simp only [cut_more _ _ hcs] at HCT HFR
        go_wp2_with fail
        go_region
        all_goals
          go_wp2_with fail
          refine bodyPost_ret (v := .tuple #[.agg #[.int .i64 m, .slice (some ⟨b, o + 1, none⟩) (s.held.length - 1) (c - 1), .bool false], .agg #[.int .u8 0, .slice V 0 vc], .int .i64 6]) (by simp [results, Try.results14, go_sem, b0, b1, b2, d0, d1, l2, hz1]) rfl ⟨(some ⟨b, o + 1, none⟩), (c - 1), V, vc, by rw [HNG.out, HNS.out]; simp, ?_, ?_, ?_, ?_⟩
          · rw [HNS.out]
            exact HCT.out
          · exact HFR.out
          · rw [HNG.out]
            refine fre_mono (fre_only HV.out (F := fun j => j < w0.heap.size ∨ w1.heap.size ≤ j) ?_ (fun a ha hf => by have := HV.out.base a ha; omega)) HB0.out.size
            repeat' (first | with_reducible exact Only.refl _ _ | with_reducible apply Only.drew | with_reducible apply Only.drewN | with_reducible apply Only.alloc | with_reducible refine Only.put ?_ (by dsimp only; omega) _)
          · repeat' (first | with_reducible exact HBW.out | with_reducible apply Below.drew | with_reducible apply Below.drewN | with_reducible refine Below.alloc ?_ (by simp; omega) _ | with_reducible refine Below.setCell ?_ (by dsimp only; omega) _)

set_option maxRecDepth 100000 in
set_option maxHeartbeats 4000000 in
theorem rneed_any {w : World} {m : Int} {A : Option Addr} {s : St} {n0 c : Nat} {b : Bool} (hn0 : s.held.length = n0) (hb0 : s.shut = b) (hm : okM m) (h : Arg w A s.held c) (hs : s.held.length ≤ 100000000) :
    Calls Try.prog 20 #[.agg #[.int .i64 m, .slice A n0 c, .bool b]] w (intOfN (need m s) w) := by
  subst hn0
  have hm1 : 0 ≤ m := by unfold okM at hm; omega
  have hm2 : m ≤ 2097152 := by unfold okM at hm; omega
  have hcm := h.max
  unfold maxLen at hcm
  have hlen := h.le
  cases b
  case true =>
    have HN : Hid (need m s = 0) := by show _ = _; unfold need; rw [hb0]; rfl
    clear h
    go_enter Try.func20, Try.ntmps20
    go_wp2_with fail
    go_ret
    exact ⟨by rw [HN.out]; rfl, below_new _ _⟩
  case false =>
    obtain ⟨w0, hw0⟩ : ∃ w0, w0 = w.alloc (.cells #[.int .i64 m, .slice A s.held.length c, .bool false] 31) := ⟨_, rfl⟩
    have B0 : Below w.heap.size w w0 := by rw [hw0]; exact below_new _ _
    have ca : Cel3 w0 w.heap.size (.int .i64 m) (.slice A s.held.length c) (.bool false) := by rw [hw0]; exact Cel3.new w _ _ _ _
    have HA := Lib.hid (arg_below h B0 (Nat.le_refl _))
    have HB0 := Lib.hid B0; have CA := Lib.hid ca
    obtain ⟨⟨cd, p, sz, er⟩, hr⟩ : ∃ r, readV s.held m = r := ⟨_, rfl⟩
    have HR := Lib.hid hr
    have HG := Lib.hid (rread_any A s.held c m w0 HA.out.rd (by omega) hlen (by omega) (by omega))
    rw [hr] at HG
    have HM := Lib.hid hm
    have HNN : Hid (need m s = if er ≠ 4 then 0 else if getE s.held ≠ 0 then 1 else getS s.held + getN s.held - s.held.length) := by show _ = _; unfold need; rw [hb0, hr]; rfl
    clear hr h B0 ca
    go_enter Try.func20, Try.ntmps20
    go_wp2_with fail
    rw [← hw0]
    clear hw0
    refine HG.out.mono ?_
    rintro e w1 ⟨V, vc, rfl, _, hb⟩
    have HB := Lib.hid hb
    obtain ⟨a0, a1, a2, af0, af1, af2⟩ := CA.out.below hb (Nat.le_refl _)
    obtain ⟨w2, hw2⟩ : ∃ w2, w2 = w1.alloc (.cells #[.int .u8 (cd.toNat : Int), .slice V p.length vc] 39) := ⟨_, rfl⟩
    have b2 : Below w1.heap.size w1 w2 := by rw [hw2]; exact below_new _ _
    have HB2 : Hid (Below w0.heap.size w0 w2) := hb.trans (b2.mono hb.size)
    have HBF : Hid (Below w.heap.size w w2) := HB0.out.trans (HB2.out.mono HB0.out.size)
    have HGG := Lib.hid (rget_any A s.held c w2 (HA.out.rd.below HB2.out (Nat.le_refl _)) (by omega))
    have l1 : w.heap.size < w1.heap.size := Nat.lt_of_lt_of_le CA.out.lt hb.size
    have a1' : w2.cell? ⟨w.heap.size, 1, none⟩ = some (.slice A s.held.length c) := by rw [b2.cell (p := ⟨w.heap.size, 1, none⟩) l1]; exact a1
    clear hb b2
    by_cases h4 : er = 4
    case neg =>
      have hne : ((er : Int) != 4) = true := by rw [bne_iff_ne]; omega
      have HN0 : Hid (need m s = 0) := by show _ = _; rw [HNN.out, if_pos h4]
      clear h4
      rw [hw2] at HBF
      clear hw2
      go_wp2_with fail
      go_ret
      exact ⟨by rw [HN0.out]; rfl, HBF.out⟩
    case pos =>
      subst h4
      have H4 : Hid ((readV s.held m).2.2.2 = 4) := by show _ = _; rw [HR.out]
      by_cases he : getE s.held = 0
      case neg =>
        obtain ⟨e1, e2, e3⟩ := get_no s.held he
        have HGR : Hid (getR s.held = .tuple #[.int .u64 0, .int .i64 0, .int .i64 (getE s.held : Int)]) := by show _ = _; unfold getR; rw [e2, e3]; rfl
        have hne : ((getE s.held : Int) != 0) = true := by rw [bne_iff_ne]; omega
        have HN1 : Hid (need m s = 1) := by show _ = _; rw [HNN.out, if_neg (by simp), if_pos he]
        clear he e1 e2 e3
        go_wp2_with fail
        rw [← hw2]
        clear hw2
        refine HGG.out.mono ?_
        rintro e w' ⟨rfl, rfl⟩
        rw [HGR.out]
        go_wp2_with fail
        go_ret
        exact ⟨by rw [HN1.out]; rfl, HBF.out⟩
      case pos =>
        obtain ⟨g1, g2, g3⟩ := get_lt s.held
        obtain ⟨r1, r2⟩ := read_four HM.out H4.out he
        have HGR : Hid (getR s.held = .tuple #[.int .u64 (getN s.held : Int), .int .i64 (getS s.held : Int), .int .i64 0]) := by show _ = _; unfold getR; rw [he]; rfl
        have HN1 : Hid (need m s = getS s.held + getN s.held - s.held.length) := by show _ = _; rw [HNN.out, if_neg (by simp), if_neg (by omega)]
        clear he g1
        generalize getN s.held = n at *
        generalize getS s.held = k at *
        go_wp2_with fail
        rw [← hw2]
        clear hw2
        refine HGG.out.mono ?_
        rintro e w' ⟨rfl, rfl⟩
        rw [HGR.out]
        go_wp2_with fail
        go_ret
        exact ⟨by rw [HN1.out]; exact ret_i (by omega), HBF.out⟩
end Go.Proofs.Ytmphielkohnpgaa.Ds
