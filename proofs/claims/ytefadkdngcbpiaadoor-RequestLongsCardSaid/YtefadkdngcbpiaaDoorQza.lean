/- Proves what the specification's list and bytes return. Conditions: bounded strings; a command of bounded parts. -/
import Derived.Test.YtefadkdngcbpiaaDoorQj
import Derived.Test.YtefadkdngcbpiaaDoorQn
import Derived.Test.YtefadkdngcbpiaaDoorVrb
import Derived.Deep.Cut
namespace Go.Proofs.YtefadkdngcbpiaaDoor.Qza
open Go.RowKit Vm Ap Vw Va Vab Vr Vrb Gc Mi Mb Qm Qs Qe Qn

set_option maxRecDepth 100000 in
set_option maxHeartbeats 1000000 in
theorem rlist_any (A : Option Addr) (ls : List Bs) (c : Nat) (w : World) (hA : Rd w A ls) (hk : ls.length ≤ 40) (hx : ∀ s ∈ ls, s.length ≤ 1000000) :
    Calls Tryd.prog 56 #[.slice A ls.length c] w (bytesPost w (encL ls)) := by
  have HX := Lib.hid hx
  have HT := Lib.hid (fun k => Qn.take_len ls k hx hk)
  have hn : ls.length < big := by unfold big; omega
  have HE := Lib.hid (enc_le ls.length hn)
  have HP := Lib.hid (rput_any ls.length w hn)
  have hi : (ls.length : Int) ≤ 40 := by omega
  clear hx hn
  go_enter Tryd.func56, Tryd.ntmps56
  go_wp2_with fail
  refine HP.out.mono ?_
  rintro e w1 ⟨v1, rfl, h1, b1⟩
  have H1 := Lib.hid h1; have B1 := Lib.hid b1
  clear h1 b1
  go_wp2_with fail
  go_loopw [3, 4] (fun u i wr => ∃ k : Nat, k ≤ ls.length ∧ i = .int .i64 (k : Int) ∧ Own w.heap.size wr u (encN ls.length ++ (ls.take k).flatMap encS) ∧ Below w.heap.size w wr) (fun _ i _ => ls.length - (intOf i).toNat)
  case atStart => exact ⟨0, Nat.zero_le _, rfl, by simpa using H1.out, B1.out⟩
  case round =>
    obtain ⟨k, hkl, rfl, hown, hbw⟩ := hrel
    obtain ⟨wo, rfl⟩ : ∃ wo : World, wo = wr := ⟨_, rfl⟩
    have HB := Lib.hid hbw
    have hz := hbw.size
    obtain ⟨U, uc, sh⟩ := own_shape hown
    obtain rfl := sh.val
    have SH := Lib.hid sh
    have HO := Lib.hid hown
    have hle := HT.out k
    have he := HE.out
    have hll : (encN ls.length ++ (ls.take k).flatMap encS).length ≤ 100000000 := by rw [List.length_append]; omega
    clear sh hown
    by_cases hlt : k < ls.length
    · obtain ⟨b, o, rfl, hb, hc⟩ := (hA.below hbw (Nat.le_refl _)).at_ hlt
      have i1 : (k : Int) < ls.length := by omega
      have hxl := HX.out _ (List.getElem_mem hlt)
      have HF := Lib.hid (encL_take hlt)
      obtain ⟨s, hs⟩ : ∃ s, s = ls[k] := ⟨_, rfl⟩
      rw [← hs] at hc hxl HF
      obtain ⟨C, d, w2, hcv, hrb, hnon, hb2⟩ := conv_of s wo
      obtain ⟨pre, hpre⟩ : ∃ pre, pre = encN ls.length ++ (ls.take k).flatMap encS := ⟨_, rfl⟩
      rw [← hpre] at SH HO hll ⊢
      have HN : Hid (encN ls.length ++ (ls.take (k + 1)).flatMap encS = pre ++ encS s) := by show _ = _; rw [HF.out, hpre, List.append_assoc]
      have HPB := Lib.hid (rputB_any C s d w2 hrb hnon (by omega))
      have HB2 := Lib.hid (HB.out.trans (hb2.mono hz))
      have hz2 := HB2.out.size
      have HO2 : Hid (Own w.heap.size w2 (.slice U pre.length uc) pre) := own_below HO.out hb2 (Nat.le_refl _)
      have hsl := encS_len s hxl
      clear hs hpre hrb hnon hb2 hbw
      go_wp2_with fail
      refine HPB.out.mono ?_
      rintro e w3 ⟨v3, rfl, h3, b3⟩
      have h3' : Own w2.heap.size w3 v3 (encS s) := h3
      obtain ⟨P, pc, sp⟩ := own_shape h3'
      obtain rfl := sp.val
      have SP := Lib.hid sp
      have B3 := Lib.hid (HB2.out.trans (b3.mono hz2))
      have HO3 : Hid (Own w.heap.size w3 (.slice U pre.length uc) pre) := own_below HO2.out b3 (Nat.le_refl _)
      have hz3 := B3.out.size
      clear h3 h3' sp b3 hcv hc
      go_wp2_with (at_builtin; (refine wpList_from rfl _ _ rfl rfl HO3.out (encS s) P pc rfl SP.out.non SP.out.rd (by omega) (by omega) hz3 ?_))
      intro v4 w4 h4 g4
      have H4 : Hid (Own w.heap.size w4 v4 (encN ls.length ++ (ls.take (k + 1)).flatMap encS)) := by show Own _ _ _ _; rw [HN.out]; exact h4
      have B4 := Lib.hid (B3.out.grown g4 hz3 (fun j e => (World.ownsRow.lt HO3.out j e).1))
      clear h4 g4
      go_wp2_with fail
      go_roundw
      case rel => exact ⟨k + 1, by omega, by go_num, H4.out, B4.out⟩
      case measure => simp [intOf]; omega
    · obtain rfl : k = ls.length := by omega
      have hnn : ¬ (ls.length : Int) < ls.length := by omega
      have HL : Hid (encN ls.length ++ (ls.take ls.length).flatMap encS = encL ls) := by show _ = _; rw [List.take_length]; rfl
      rw [HL.out] at HO ⊢
      clear hbw
      go_wp2_with fail
      go_ret
      exact ⟨_, rfl, HO.out, HB.out⟩

set_option maxRecDepth 100000 in
set_option maxHeartbeats 8000000 in
theorem rbytes_any (x : Com) (y : UInt8) (hy : y ∈ nine) (w : World) (hr : Rc w x) (hb : Bnd x.c) (h40 : x.c.tags.length ≤ 40 ∧ x.c.keys.length ≤ 40) :
    Calls Tryd.prog 41 #[comV x, .int .u8 (y.toNat : Int)] w (bytesPost w (bytesR x.c y)) := by
  unfold comV
  obtain ⟨w0, hw0⟩ : ∃ w0, w0 = w.alloc (comO x) := ⟨_, rfl⟩
  have B0 : Below w.heap.size w w0 := by rw [hw0]; exact alloc_below _ _
  have HB := Lib.hid B0
  have bx : Box w0 w.heap.size x := by rw [hw0]; exact Box.new _ _
  have HR := Lib.hid (hr.below B0 (Nat.le_refl _))
  have HD := Lib.hid hb
  obtain ⟨c0, c1, c2, c3, c4, c5, c6, c7, c8, c9, _⟩ := bx
  unfold comO at hw0
  clear B0 hr hb
  unfold nine at hy
  simp only [List.mem_cons, List.not_mem_nil, or_false] at hy
  rcases hy with rfl | rfl | rfl | rfl | rfl | rfl | rfl | rfl | rfl
  · have HV : Hid (bytesR x.c 107 = encS x.c.key) := rfl
    show Calls _ _ #[_, .int .u8 107] _ _
    rw [HV.out]
    obtain ⟨C, d, w1, hcv, hrb, hnon, hb1⟩ := conv_of x.c.key w0
    have HQ := Lib.hid (rputB_any C x.c.key d w1 hrb hnon (by have := HD.out.key; omega))
    have HB1 := Lib.hid (HB.out.trans (hb1.mono HB.out.size))
    clear hrb hnon hb1
    go_enter Tryd.func41, Tryd.ntmps41
    go_upto_region 1 with fail
    rw [← hw0]
    clear hw0
    go_wp2_with fail
    refine HQ.out.mono ?_
    rintro e w2 ⟨v2, rfl, h2, b2⟩
    have H2 : Hid (Own w.heap.size w2 v2 (encS x.c.key)) := own_base h2 HB1.out.size
    have B2 := Lib.hid (HB1.out.trans (b2.mono HB1.out.size))
    clear h2 b2
    go_wp2_with fail
    go_ret
    exact ⟨v2, rfl, H2.out, B2.out⟩
  · have HV : Hid (bytesR x.c 118 = encS x.c.value) := rfl
    show Calls _ _ #[_, .int .u8 118] _ _
    rw [HV.out]
    have HQ := Lib.hid (rputB_any x.VA x.c.value x.vc w0 HR.out.rv HR.out.nv (by have := HD.out.value; omega))
    go_enter Tryd.func41, Tryd.ntmps41
    go_upto_region 1 with fail
    rw [← hw0]
    clear hw0
    go_wp2_with fail
    refine HQ.out.mono ?_
    rintro e w2 ⟨v2, rfl, h2, b2⟩
    have H2 : Hid (Own w.heap.size w2 v2 (encS x.c.value)) := own_base h2 HB.out.size
    have B2 := Lib.hid (HB.out.trans (b2.mono HB.out.size))
    clear h2 b2
    go_wp2_with fail
    go_ret
    exact ⟨v2, rfl, H2.out, B2.out⟩
  · have HV : Hid (bytesR x.c 116 = encL x.c.tags) := rfl
    show Calls _ _ #[_, .int .u8 116] _ _
    rw [HV.out]
    have HQ := Lib.hid (rlist_any x.TA x.c.tags x.tc w0 HR.out.rt h40.1 HD.out.eachT)
    go_enter Tryd.func41, Tryd.ntmps41
    go_upto_region 1 with fail
    rw [← hw0]
    clear hw0
    go_wp2_with fail
    refine HQ.out.mono ?_
    rintro e w2 ⟨v2, rfl, h2, b2⟩
    have H2 : Hid (Own w.heap.size w2 v2 (encL x.c.tags)) := own_base h2 HB.out.size
    have B2 := Lib.hid (HB.out.trans (b2.mono HB.out.size))
    clear h2 b2
    go_wp2_with fail
    go_ret
    exact ⟨v2, rfl, H2.out, B2.out⟩
  · have HV : Hid (bytesR x.c 108 = encN x.c.life) := rfl
    show Calls _ _ #[_, .int .u8 108] _ _
    rw [HV.out]
    have HQ := Lib.hid (rput_any x.c.life w0 HD.out.life)
    go_enter Tryd.func41, Tryd.ntmps41
    go_upto_region 1 with fail
    rw [← hw0]
    clear hw0
    go_wp2_with fail
    refine HQ.out.mono ?_
    rintro e w2 ⟨v2, rfl, h2, b2⟩
    have H2 : Hid (Own w.heap.size w2 v2 (encN x.c.life)) := own_base h2 HB.out.size
    have B2 := Lib.hid (HB.out.trans (b2.mono HB.out.size))
    clear h2 b2
    go_wp2_with fail
    go_ret
    exact ⟨v2, rfl, H2.out, B2.out⟩
  · have HV : Hid (bytesR x.c 110 = encN x.c.version) := rfl
    show Calls _ _ #[_, .int .u8 110] _ _
    rw [HV.out]
    have HQ := Lib.hid (rput_any x.c.version w0 HD.out.version)
    go_enter Tryd.func41, Tryd.ntmps41
    go_upto_region 1 with fail
    rw [← hw0]
    clear hw0
    go_wp2_with fail
    refine HQ.out.mono ?_
    rintro e w2 ⟨v2, rfl, h2, b2⟩
    have H2 : Hid (Own w.heap.size w2 v2 (encN x.c.version)) := own_base h2 HB.out.size
    have B2 := Lib.hid (HB.out.trans (b2.mono HB.out.size))
    clear h2 b2
    go_wp2_with fail
    go_ret
    exact ⟨v2, rfl, H2.out, B2.out⟩
  · have HV : Hid (bytesR x.c 109 = encL x.c.keys) := rfl
    show Calls _ _ #[_, .int .u8 109] _ _
    rw [HV.out]
    have HQ := Lib.hid (rlist_any x.KA x.c.keys x.kc w0 HR.out.rk h40.2 HD.out.eachK)
    go_enter Tryd.func41, Tryd.ntmps41
    go_upto_region 1 with fail
    rw [← hw0]
    clear hw0
    go_wp2_with fail
    refine HQ.out.mono ?_
    rintro e w2 ⟨v2, rfl, h2, b2⟩
    have H2 : Hid (Own w.heap.size w2 v2 (encL x.c.keys)) := own_base h2 HB.out.size
    have B2 := Lib.hid (HB.out.trans (b2.mono HB.out.size))
    clear h2 b2
    go_wp2_with fail
    go_ret
    exact ⟨v2, rfl, H2.out, B2.out⟩
  · have HV : Hid (bytesR x.c 103 = encS x.c.tag) := rfl
    show Calls _ _ #[_, .int .u8 103] _ _
    rw [HV.out]
    obtain ⟨C, d, w1, hcv, hrb, hnon, hb1⟩ := conv_of x.c.tag w0
    have HQ := Lib.hid (rputB_any C x.c.tag d w1 hrb hnon (by have := HD.out.tag; omega))
    have HB1 := Lib.hid (HB.out.trans (hb1.mono HB.out.size))
    clear hrb hnon hb1
    go_enter Tryd.func41, Tryd.ntmps41
    go_upto_region 1 with fail
    rw [← hw0]
    clear hw0
    go_wp2_with fail
    refine HQ.out.mono ?_
    rintro e w2 ⟨v2, rfl, h2, b2⟩
    have H2 : Hid (Own w.heap.size w2 v2 (encS x.c.tag)) := own_base h2 HB1.out.size
    have B2 := Lib.hid (HB1.out.trans (b2.mono HB1.out.size))
    clear h2 b2
    go_wp2_with fail
    go_ret
    exact ⟨v2, rfl, H2.out, B2.out⟩
  · have HV : Hid (bytesR x.c 112 = encS x.c.pre) := rfl
    show Calls _ _ #[_, .int .u8 112] _ _
    rw [HV.out]
    obtain ⟨C, d, w1, hcv, hrb, hnon, hb1⟩ := conv_of x.c.pre w0
    have HQ := Lib.hid (rputB_any C x.c.pre d w1 hrb hnon (by have := HD.out.pre; omega))
    have HB1 := Lib.hid (HB.out.trans (hb1.mono HB.out.size))
    clear hrb hnon hb1
    go_enter Tryd.func41, Tryd.ntmps41
    go_upto_region 1 with fail
    rw [← hw0]
    clear hw0
    go_wp2_with fail
    refine HQ.out.mono ?_
    rintro e w2 ⟨v2, rfl, h2, b2⟩
    have H2 : Hid (Own w.heap.size w2 v2 (encS x.c.pre)) := own_base h2 HB1.out.size
    have B2 := Lib.hid (HB1.out.trans (b2.mono HB1.out.size))
    clear h2 b2
    go_wp2_with fail
    go_ret
    exact ⟨v2, rfl, H2.out, B2.out⟩
  · have HV : Hid (bytesR x.c 99 = encS x.c.child) := rfl
    show Calls _ _ #[_, .int .u8 99] _ _
    rw [HV.out]
    obtain ⟨C, d, w1, hcv, hrb, hnon, hb1⟩ := conv_of x.c.child w0
    have HQ := Lib.hid (rputB_any C x.c.child d w1 hrb hnon (by have := HD.out.child; omega))
    have HB1 := Lib.hid (HB.out.trans (hb1.mono HB.out.size))
    clear hrb hnon hb1
    go_enter Tryd.func41, Tryd.ntmps41
    go_upto_region 1 with fail
    rw [← hw0]
    clear hw0
    go_wp2_with fail
    refine HQ.out.mono ?_
    rintro e w2 ⟨v2, rfl, h2, b2⟩
    have H2 : Hid (Own w.heap.size w2 v2 (encS x.c.child)) := own_base h2 HB1.out.size
    have B2 := Lib.hid (HB1.out.trans (b2.mono HB1.out.size))
    clear h2 b2
    go_wp2_with fail
    go_ret
    exact ⟨v2, rfl, H2.out, B2.out⟩
end Go.Proofs.YtefadkdngcbpiaaDoor.Qza
