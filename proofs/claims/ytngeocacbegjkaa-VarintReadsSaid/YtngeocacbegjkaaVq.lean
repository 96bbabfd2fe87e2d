/- Proves that VarintParts returns true at every argument. Conditions: as the row gives them. -/
import Derived.Test.YtngeocacbegjkaaVl
namespace Go.Proofs.Ytngeocacbegjkaa.Vq
open Go.RowKit Vm Ap Vw Va Vab Vr Vrb Vg Vgr Vc Vp Vpr Vn Vs Vh Vk Vl

theorem wrap_byte (x : Nat) : IntKind.u8.wrap ((x : Int) + 1) = (((x + 1) % 256 : Nat) : Int) := by rw [IntKind.wrap_u8']; omega

set_option maxRecDepth 100000 in
set_option maxHeartbeats 4000000 in
theorem parts_walk (A : Option Addr) (l : Bs) (c : Nat) (most : Int) (W : World) (ha : Arg W A l c) (hm : (Lit.int .i64 most).wf = true) :
    Calls Try.prog 5 #[.slice A l.length c, .int .i64 most] W (boolBelow W) := by
  obtain ⟨m0, m1⟩ := bounds_i64 hm
  have HK := known_hid
  have hA := ha.rd
  have hlc := ha.le
  have hc := ha.max
  have HN := Lib.hid ha.non
  unfold maxLen at hc
  clear ha hm
  by_cases h : 600 < l.length
  · have h1 : (600 : Int) < (l.length : Int) := by omega
    clear hA h
    go_enter Try.func5, Try.ntmps5
    go_wp2_with fail
    refine (HK.out _).mono ?_
    rintro e w1 ⟨rfl, hb⟩
    go_wp2_with fail
    go_ret
    exact ⟨rfl, hb⟩
  · have h1 : (l.length : Int) ≤ 600 := by omega
    have hl : l.length ≤ 600 := by omega
    have HA := Lib.hid hA
    have HG := Lib.hid (rgetB_any A l c most W hA (by omega) hlc m0 m1)
    have HT : Hid (∀ w, Rb w A l → Calls Try.prog 18 #[.slice A l.length c, .int .i64 most, .string ⟨(partV l most).1.toArray⟩, .int .i64 ((partV l most).2.1 : Int), .int .i64 ((partV l most).2.2 : Int)] w (boolBelow w)) :=
      fun w hw => part_true A l _ l.length c most _ _ w rfl hw (by omega) hlc m0 m1 rfl rfl rfl
    have HP : Hid (∀ (D : Option Addr) (d : Nat) w, Rb w D l → l.length ≤ d → Calls Try.prog 19 #[.slice D l.length d, .int .i64 most] w (partPost w l most)) :=
      fun D d w hw hd => getB_any D l d most w hw (by omega) hd m0 m1
    clear hA h
    unfold partPost at HG HP
    generalize (partV l most).1 = p at *
    generalize (partV l most).2.1 = s at *
    generalize (partV l most).2.2 = e0 at *
    go_enter Try.func5, Try.ntmps5
    go_wp2_with fail
    refine HG.out.mono ?_
    rintro e w1 ⟨v1, rfl, ho, hb⟩
    obtain ⟨C, d, sh⟩ := own_shape ho
    obtain rfl := sh.val
    have SH := Lib.hid sh
    have HB1 := Lib.hid hb
    have hcv := conv_str d sh.rd
    clear ho hb sh
    go_wp2_with fail
    refine (HT.out _ (HA.out.below HB1.out (Nat.le_refl _))).mono ?_
    rintro e w2 ⟨rfl, hb⟩
    have HB2 := Lib.hid (step0 HB1.out hb)
    have RC := Lib.hid (SH.out.rd.below hb (Nat.le_refl _))
    have HC : Hid (∀ a, C = some a → a.block < w2.heap.size) := fun a e => Nat.lt_of_lt_of_le (SH.out.base a e).2 hb.size
    have HA2 := Lib.hid (HA.out.below HB2.out (Nat.le_refl _))
    clear hb hcv
    have HON := Lib.hid (own_nil w2.heap.size w2)
    go_wp2_with (at_builtin; (refine wpList_from rfl _ _ rfl rfl HON.out l A c rfl HN.out HA2.out (by simp) (by omega) (Nat.le_refl _) ?_))
    intro v3 w3 h3 g3
    have b3 := below_of_grown g3 (Nat.le_refl w2.heap.size) (by intro k e; cases e)
    obtain ⟨D, f, sh3⟩ := own_shape h3
    have HB3 := Lib.hid (step0 HB2.out b3)
    have RC3 := Lib.hid (RC.out.below b3 (Nat.le_refl _))
    have hform := own_form h3
    have HO3 := Lib.hid h3
    have hz3 := b3.size
    clear g3 b3 h3
    rcases hform with ⟨rfl, rfl⟩ | ⟨g, cap, rfl, hBg, hgl, hcap⟩
    · clear sh3
      go_wp2_with fail
      refine (HP.out none 0 _ (Rb.nil _ _) (by simp)).mono ?_
      rintro e w4 ⟨v4, rfl, ho, hb⟩
      obtain ⟨E, q, sh4⟩ := own_shape ho
      obtain rfl := sh4.val
      have SH4 := Lib.hid sh4
      have HB4 := Lib.hid (step0 HB3.out hb)
      have RC4 := Lib.hid (RC3.out.below hb (Nat.le_refl _))
      clear ho hb sh4
      go_wp2_with fail
      go_loopw [43] (fun i wr => i = .int .i64 0 ∧ w4 = wr) (fun _ _ => 0)
      case atStart => exact ⟨rfl, rfl⟩
      case round =>
        obtain ⟨rfl, rfl⟩ := hrel
        have hc1 := conv_str q SH4.out.rd
        have hc2 := conv_str d RC4.out
        go_wp2_with fail
        refine (HK.out _).mono ?_
        rintro e w5 ⟨rfl, b⟩
        have HB5 := Lib.hid (step0 HB4.out b); clear b
        go_wp2_with fail
        go_ret
        exact ⟨rfl, HB5.out⟩
    · have R3 := Lib.hid (Rb.of_own HO3.out)
      clear sh3
      go_wp2_with fail
      refine (HP.out _ cap _ R3.out hcap).mono ?_
      rintro e w4 ⟨v4, rfl, ho, hb⟩
      obtain ⟨E, q, sh4⟩ := own_shape ho
      obtain rfl := sh4.val
      have SH4 := Lib.hid sh4
      have HB4 := Lib.hid (step0 HB3.out hb)
      have RC4 := Lib.hid (RC3.out.below hb (Nat.le_refl _))
      have HO4 := Lib.hid (own_below HO3.out hb (Nat.le_refl _))
      clear ho hb sh4
      go_wp2_with fail
      go_loopw [43] (fun i wr => ∃ (k : Nat) (m : Bs), k ≤ l.length ∧ i = .int .i64 (k : Int) ∧ m.length = l.length ∧ Own w2.heap.size wr (.slice (some ⟨g, 0, none⟩) l.length cap) m ∧ w4.grownBy wr (some g)) (fun i _ => l.length - (intOf i).toNat)
      case atStart => exact ⟨0, l, Nat.zero_le _, rfl, rfl, HO4.out, World.grownBy.refl _ _⟩
      case round =>
        obtain ⟨k, m, hk, rfl, hml, hown, hgr⟩ := hrel
        have HM := Lib.hid hml
        have HO := Lib.hid hown
        have HGR := Lib.hid hgr
        by_cases hlt : k < l.length
        · have hkm : k < m.length := by omega
          obtain ⟨hc0, hf0⟩ := own_cell hml hown hkm
          have hx := m[k].toNat_lt
          have HS := Lib.hid (own_store hml hown k ((m[k].toNat + 1) % 256) (by omega))
          have HWR := Lib.hid (wrap_byte m[k].toNat)
          have i1 : (k : Int) < l.length := by omega
          clear hml hown hgr
          go_wp2_with fail
          go_roundw
          case rel => exact ⟨k + 1, _, by omega, by go_num, by rw [List.length_set]; exact HM.out, HS.out, grown_store HGR.out k _⟩
          case measure => simp [intOf]; omega
        · obtain rfl : k = l.length := by omega
          have hnn : ¬ (l.length : Int) < l.length := by omega
          have hc1 := conv_str q (SH4.out.rd.grown hgr (fun a e e' => by have := (SH4.out.base a e).1; injection e' with e'; omega))
          have hc2 := conv_str d (RC4.out.grown hgr (fun a e e' => by have := HC.out a e; injection e' with e'; omega))
          have HB5 := Lib.hid (HB4.out.grown hgr HB4.out.size (fun j e => by injection e with e; have := HB2.out.size; omega))
          clear hml hown hgr
          go_wp2_with fail
          refine (HK.out _).mono ?_
          rintro e w5 ⟨rfl, b⟩
          have HB6 := Lib.hid (step0 HB5.out b); clear b
          go_wp2_with fail
          go_ret
          exact ⟨rfl, HB6.out⟩
end Go.Proofs.Ytngeocacbegjkaa.Vq
