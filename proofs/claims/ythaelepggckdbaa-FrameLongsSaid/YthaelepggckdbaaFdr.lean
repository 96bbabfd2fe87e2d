/- Proves that FrameReads returns true at every argument. Conditions: as the row gives them. -/
import Derived.Test.YthaelepggckdbaaFk
import Derived.OpenShut
namespace Go.Proofs.Ythaelepggckdbaa.Fdr
open Go.RowKit Vm Ap Vw Va Vr Gc Fm Fc Fw Fr Frr Fh Fk

theorem known_hid : Hid (∀ W, Calls Try.prog 8 #[] W (boolOf true W)) := known_any
set_option maxRecDepth 100000 in
set_option maxHeartbeats 4000000 in
theorem reads_walk (A : Option Addr) (l : Bs) (c : Nat) (most : Int) (W : World) (ha : Arg W A l c) (hm : (Lit.int .i64 most).wf = true) :
    Calls Try.prog 4 #[.slice A l.length c, .int .i64 most] W (boolOf true W) := by
  obtain ⟨m0, m1⟩ := bounds_i64 hm
  have HK := known_hid
  have hA := ha.rd
  have hlc := ha.le
  have hc := ha.max
  have HN := Lib.hid ha.non
  unfold maxLen at hc
  clear ha hm
  by_cases h : 600 < l.length
  · have h1 : (600 : Int) < (l.length : Int) := by omega
    clear hA h
    go_enter Try.func4, Try.ntmps4
    go_wp2_with fail
    refine (HK.out _).mono ?_
    rintro e w1 ⟨rfl, hb⟩
    go_wp2_with fail
    go_ret
    exact ⟨rfl, hb⟩
  · have h1 : (l.length : Int) ≤ 600 := by omega
    have hl : l.length ≤ 600 := by omega
    have HA := Lib.hid hA
    have HG := Lib.hid (rread_any A l c most W hA (by omega) hlc m0 m1)
    obtain ⟨⟨cd, p, s, e0⟩, hx⟩ : ∃ x, x = readV l most := ⟨_, rfl⟩
    have HT : Hid (∀ C j w, Rb w A l → Rb w C p → Calls Try.prog 15 #[.slice A l.length c, .int .i64 most, .agg #[.int .u8 (cd.toNat : Int), .slice C p.length j], .int .i64 (s : Int), .int .i64 (e0 : Int)] w (boolOf true w)) :=
      fun C j w hw hC => reads_true A C l p _ c _ j cd most _ _ _ s e0 w rfl rfl hw (by omega) hlc m0 m1 hC hx.symm rfl rfl rfl
    have HP : Hid (∀ (D : Option Addr) (d : Nat) w, Rb w D l → l.length ≤ d → Calls Try.prog 16 #[.slice D l.length d, .int .i64 most] w (readPost w (cd, p, s, e0))) :=
      fun D d w hw hd => by rw [hx]; exact fread_any D l d most w hw (by omega) hd m0 m1
    rw [← hx] at HG
    clear hA h hx
    unfold readPost at HG HP
    simp only at HG HP
    go_enter Try.func4, Try.ntmps4
    go_wp2_with fail
    refine HG.out.mono ?_
    rintro e w1 ⟨C, d, rfl, hf, hb⟩
    have HB1 := Lib.hid hb
    have SH := Lib.hid hf
    clear hf hb
    go_wp2_with fail
    obtain ⟨wa, hwa⟩ : ∃ wa, wa = w1.alloc (.cells #[.int .u8 (cd.toNat : Int), .slice C p.length d] 24) := ⟨_, rfl⟩
    rw [← hwa]
    have ba : Below w1.heap.size w1 wa := by rw [hwa]; exact alloc_below _ _
    have CEa : Hid (Cel wa w1.heap.size (.int .u8 (cd.toNat : Int)) (.slice C p.length d)) := by rw [hwa]; exact Cel.new _ _ _ _
    have HBa := Lib.hid (step0 HB1.out ba)
    have RCa := Lib.hid (SH.out.rd.below ba (Nat.le_refl _))
    have HC : Hid (∀ a, C = some a → a.block < wa.heap.size) := fun a e => Nat.lt_of_lt_of_le (SH.out.base a e).2 ba.size
    clear hwa ba
    refine (HT.out C d _ (HA.out.below HBa.out (Nat.le_refl _)) RCa.out).mono ?_
    rintro e w2 ⟨rfl, hb⟩
    have HB2 := Lib.hid (step0 HBa.out hb)
    have RC := Lib.hid (RCa.out.below hb (Nat.le_refl _))
    have CE2 := Lib.hid (CEa.out.below hb (Nat.le_refl _))
    have HC2 : Hid (∀ a, C = some a → a.block < w2.heap.size) := fun a e => Nat.lt_of_lt_of_le (HC.out a e) hb.size
    have HA2 := Lib.hid (HA.out.below HB2.out (Nat.le_refl _))
    clear hb HC RCa CEa
    have HON := Lib.hid (own_nil w2.heap.size w2)
    go_wp2_with (at_builtin; (refine wpList_from rfl _ _ rfl rfl HON.out l A c rfl HN.out HA2.out (by simp) (by omega) (Nat.le_refl _) ?_))
    intro v3 w3 h3 g3
    have b3 := below_of_grown g3 (Nat.le_refl w2.heap.size) (by intro k e; cases e)
    have HB3 := Lib.hid (step0 HB2.out b3)
    have RC3 := Lib.hid (RC.out.below b3 (Nat.le_refl _))
    have CE3 := Lib.hid (CE2.out.below b3 (Nat.le_refl _))
    have hform := own_form h3
    have HO3 := Lib.hid h3
    have hz3 := b3.size
    clear g3 b3 h3
    rcases hform with ⟨rfl, rfl⟩ | ⟨g, cap, rfl, hBg, hgl, hcap⟩
    · go_wp2_with fail
      refine (HP.out none 0 _ (Rb.nil _ _) (by simp)).mono ?_
      rintro e w4 ⟨E, q, rfl, hf, hb⟩
      have SH4 := Lib.hid hf
      have HB4 := Lib.hid (step0 HB3.out hb)
      have RC4 := Lib.hid (RC3.out.below hb (Nat.le_refl _))
      have CE4 := Lib.hid (CE3.out.below hb (Nat.le_refl _))
      clear hf hb
      go_wp2_with fail
      obtain ⟨wb, hwb⟩ : ∃ wb, wb = w4.alloc (.cells #[.int .u8 (cd.toNat : Int), .slice E p.length q] 24) := ⟨_, rfl⟩
      rw [← hwb]
      have bb : Below w4.heap.size w4 wb := by rw [hwb]; exact alloc_below _ _
      have CF : Hid (Cel wb w4.heap.size (.int .u8 (cd.toNat : Int)) (.slice E p.length q)) := by rw [hwb]; exact Cel.new _ _ _ _
      have HBb := Lib.hid (step0 HB4.out bb)
      have HQ : Hid (Calls Try.prog 13 #[.agg #[.int .u8 (cd.toNat : Int), .slice E p.length q], .agg #[.int .u8 (cd.toNat : Int), .slice C p.length d]] wb (boolOf true wb)) := by
        have := requal_any cd cd E C p p q d wb (SH4.out.rd.below bb (Nat.le_refl _)) (RC4.out.below bb (Nat.le_refl _))
        rw [eqv_self] at this; exact this
      have CE5 := Lib.hid (CE4.out.below bb (Nat.le_refl _))
      clear hwb bb
      go_wp2_with fail
      go_loopw [42] (fun i wr => i = .int .i64 0 ∧ wb = wr) (fun _ _ => 0)
      case atStart => exact ⟨rfl, rfl⟩
      case round =>
        obtain ⟨rfl, rfl⟩ := hrel
        obtain ⟨cx0, cx1, _, _⟩ := CF.out
        obtain ⟨cy0, cy1, _, _⟩ := CE5.out
        go_wp2_with fail
        refine HQ.out.mono ?_
        rintro e w5 ⟨rfl, b⟩
        have HB6 := Lib.hid (step0 HBb.out b); clear b
        go_wp2_with fail
        refine (HK.out _).mono ?_
        rintro e w7 ⟨rfl, b⟩
        have HB7 := Lib.hid (step0 HB6.out b); clear b
        go_wp2_with fail
        go_ret
        exact ⟨rfl, HB7.out⟩
    · have R3 := Lib.hid (Rb.of_own HO3.out)
      go_wp2_with fail
      refine (HP.out _ cap _ R3.out hcap).mono ?_
      rintro e w4 ⟨E, q, rfl, hf, hb⟩
      have SH4 := Lib.hid hf
      have HB4 := Lib.hid (step0 HB3.out hb)
      have RC4 := Lib.hid (RC3.out.below hb (Nat.le_refl _))
      have CE4 := Lib.hid (CE3.out.below hb (Nat.le_refl _))
      have HO4 := Lib.hid (own_below HO3.out hb (Nat.le_refl _))
      have hz4 := hb.size
      clear hf hb
      go_wp2_with fail
      obtain ⟨wb, hwb⟩ : ∃ wb, wb = w4.alloc (.cells #[.int .u8 (cd.toNat : Int), .slice E p.length q] 24) := ⟨_, rfl⟩
      rw [← hwb]
      have bb : Below w4.heap.size w4 wb := by rw [hwb]; exact alloc_below _ _
      have CF : Hid (Cel wb w4.heap.size (.int .u8 (cd.toNat : Int)) (.slice E p.length q)) := by rw [hwb]; exact Cel.new _ _ _ _
      have HBb := Lib.hid (step0 HB4.out bb)
      have SHb := Lib.hid (SH4.out.rd.below bb (Nat.le_refl _))
      have RCb := Lib.hid (RC4.out.below bb (Nat.le_refl _))
      have HOb := Lib.hid (own_below HO4.out bb (Nat.le_refl _))
      have CE5 := Lib.hid (CE4.out.below bb (Nat.le_refl _))
      clear hwb bb
      go_wp2_with fail
      go_loopw [42] (fun i wr => ∃ (k : Nat) (m : Bs), k ≤ l.length ∧ i = .int .i64 (k : Int) ∧ m.length = l.length ∧ Own w2.heap.size wr (.slice (some ⟨g, 0, none⟩) l.length cap) m ∧ wb.grownBy wr (some g)) (fun i _ => l.length - (intOf i).toNat)
      case atStart => exact ⟨0, l, Nat.zero_le _, rfl, rfl, HOb.out, World.grownBy.refl _ _⟩
      case round =>
        obtain ⟨k, m, hk, rfl, hml, hown, hgr⟩ := hrel
        have HM := Lib.hid hml
        have HO := Lib.hid hown
        have HGR := Lib.hid hgr
        by_cases hlt : k < l.length
        · have hkm : k < m.length := by omega
          obtain ⟨hc0, hf0⟩ := own_cell hml hown hkm
          have hx := m[k].toNat_lt
          have HS := Lib.hid (own_store hml hown k ((m[k].toNat + 1) % 256) (by omega))
          have HWR := Lib.hid (wrap_byte m[k].toNat)
          have i1 : (k : Int) < l.length := by omega
          clear hml hown hgr
          go_wp2_with fail
          go_roundw
          case rel => exact ⟨k + 1, _, by omega, by go_num, by rw [List.length_set]; exact HM.out, HS.out, grown_store HGR.out k _⟩
          case measure => simp [intOf]; omega
        · obtain rfl : k = l.length := by omega
          have hnn : ¬ (l.length : Int) < l.length := by omega
          have HBW := Lib.hid (HBb.out.grown hgr HBb.out.size (fun j e => by injection e with e; have := HB2.out.size; omega))
          have HQW : Hid (Calls Try.prog 13 #[.agg #[.int .u8 (cd.toNat : Int), .slice E p.length q], .agg #[.int .u8 (cd.toNat : Int), .slice C p.length d]] wr (boolOf true wr)) := by
            have := requal_any cd cd E C p p q d wr (SHb.out.grown hgr (fun a e e' => by have := (SH4.out.base a e).1; injection e' with e'; omega)) (RCb.out.grown hgr (fun a e e' => by have := HC2.out a e; injection e' with e'; omega))
            rw [eqv_self] at this; exact this
          obtain ⟨cx0, cx1, _, _⟩ := CF.out.grown hgr (by omega)
          obtain ⟨cy0, cy1, _, _⟩ := CE5.out.grown hgr (by have := CE2.out.lt; omega)
          clear hml hown hgr
          go_wp2_with fail
          refine HQW.out.mono ?_
          rintro e w5 ⟨rfl, b⟩
          have HB6 := Lib.hid (step0 HBW.out b); clear b
          go_wp2_with fail
          refine (HK.out _).mono ?_
          rintro e w7 ⟨rfl, b⟩
          have HB7 := Lib.hid (step0 HB6.out b); clear b
          go_wp2_with fail
          go_ret
          exact ⟨rfl, HB7.out⟩
end Go.Proofs.Ythaelepggckdbaa.Fdr
