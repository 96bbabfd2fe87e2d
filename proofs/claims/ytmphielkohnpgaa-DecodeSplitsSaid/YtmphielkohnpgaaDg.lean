/- Proves that DecodeAll and DecodeNil return true at every argument. Conditions: as the rows give them. -/
import Derived.Test.YtmphielkohnpgaaDk
import Derived.Test.YtmphielkohnpgaaDb
namespace Go.Proofs.Ytmphielkohnpgaa.Dg
open Go.RowKit Vm Ap Vw Va Gc Fm Fw Mi Mb Fr Dm Dd Dn De Dh Dl Fo Da Df Dk Dr Ds Db

theorem known_hid : Hid (∀ W, Calls Try.prog 9 #[] W (boolOf true W)) := known_any
set_option maxRecDepth 100000 in
set_option maxHeartbeats 2000000 in
theorem all_walk (A : Option Addr) (c : Nat) (l : Bs) (m : Int) (W : World) (ha : Arg W A l c) (_hm : (Lit.int .i64 m).wf = true) :
    Calls Try.prog 4 #[.slice A l.length c, .int .i64 m] W (boolOf true W) := by
  have HK := known_hid
  by_cases hl : 600 < l.length
  · have h1 : (600 : Int) < (l.length : Int) := by omega
    clear ha hl
    go_enter Try.func4, Try.ntmps4
    go_wp2_with fail
    refine (HK.out _).mono ?_
    rintro e w1 ⟨rfl, hb⟩
    go_wp2_with fail
    go_ret
    exact ⟨rfl, hb⟩
  · have h1 : (l.length : Int) ≤ 600 := by omega
    have HA := Lib.hid ha
    have HN := Lib.hid (rnew_any m W)
    clear ha hl
    go_enter Try.func4, Try.ntmps4
    go_wp2_with fail
    refine HN.out.mono ?_
    rintro e w1 (⟨hok, rfl, hb⟩ | ⟨hno, rfl, hb⟩)
    case' inl =>
      have HOK := Lib.hid hok
      obtain ⟨w2, hw2⟩ : ∃ w2, w2 = w1.alloc (.cells #[.int .i64 m, .slice none 0 0, .bool false] 31) := ⟨_, rfl⟩
      have HB2 : Hid (Below W.heap.size W w2) := by show Below _ _ _; rw [hw2]; exact hb.alloc hb.size _
      have HR := Lib.hid (rall_any A l l.length c m w2 rfl (arg_below HA.out HB2.out (Nat.le_refl _)) hok (by omega))
      clear hb hok
      go_wp2_with fail
      rw [← hw2]
      clear hw2
      refine HR.out.mono ?_
      rintro e w3 ⟨hb3, FA, fc, EA, ec, fs, rfl, ho, hs⟩
      have HB3 := Lib.hid (HB2.out.trans (hb3.mono HB2.out.size))
      have hgl := saysF_len hs
      have HAL := Lib.hid (all_true A l l.length c m w3 rfl (HA.out.rd.below HB3.out (Nat.le_refl _)) HA.out.non (by omega) HOK.out FA EA fs _ (allG m l).length (allG m l).length fc ec (Outs.given ho) hs rfl hgl (List.length_map ..))
      clear hb3 ho hs hgl
      go_wp2_with fail
      refine HAL.out.mono ?_
      rintro e w4 ⟨rfl, hb4⟩
      have HB4 := Lib.hid (step0 HB3.out hb4)
      clear hb4
      go_wp2_with fail
      refine (HK.out _).mono ?_
      rintro e w5 ⟨rfl, hb5⟩
      have HB5 := Lib.hid (step0 HB4.out hb5)
      clear hb5
      go_wp2_with fail
      go_ret
      exact ⟨rfl, HB5.out⟩
    case' inr =>
      obtain ⟨w2, hw2⟩ : ∃ w2, w2 = w1.alloc (.cells #[.int .i64 0, .slice none 0 0, .bool false] 31) := ⟨_, rfl⟩
      have HB2 : Hid (Below W.heap.size W w2) := by show Below _ _ _; rw [hw2]; exact hb.alloc hb.size _
      have HNO := Lib.hid hno
      have HR := Lib.hid (all_any A l l.length c m w2 rfl (HA.out.rd.below HB2.out (Nat.le_refl _)) HA.out.non (by omega))
      clear hb hno
      go_wp2_with fail
      rw [← hw2]
      clear hw2
      refine HR.out.mono ?_
      rintro e w3 ⟨hb3, (⟨_, rfl⟩ | ⟨hok, _⟩)⟩
      case' inr => exact absurd hok HNO.out
      case' inl =>
        have HB3 := Lib.hid (HB2.out.trans (hb3.mono HB2.out.size))
        clear hb3
        go_wp2_with fail
        refine (HK.out _).mono ?_
        rintro e w5 ⟨rfl, hb5⟩
        have HB5 := Lib.hid (step0 HB3.out hb5)
        clear hb5
        go_wp2_with fail
        go_ret
        exact ⟨rfl, HB5.out⟩

/-- A nil decoder, or a zero one. -/
def Idle (w : World) (P : Option Addr) : Prop := P = none ∨ ∃ g, P = some ⟨g, 0, none⟩ ∧ w.heap[g]? = some (.cells #[.int .i64 0, .slice none 0 0, .bool false, .bool false] 59 (0, 0))
theorem Idle.below {w w' : World} {P : Option Addr} (h : Idle w P) {B : Nat} (hb : Below B w w') (hB : w.heap.size ≤ B) : Idle w' P := by
  rcases h with h | ⟨g, h, hg⟩
  · exact Or.inl h
  · exact Or.inr ⟨g, h, by rw [hb.block g (by have := (Array.getElem?_eq_some_iff.1 hg).1; omega)]; exact hg⟩
structure Zc (w : World) (g : Nat) : Prop where
  c1 : w.cell? ⟨g, 1, none⟩ = some (.slice none 0 0)
  c2 : w.cell? ⟨g, 2, none⟩ = some (.bool false)
  c3 : w.cell? ⟨g, 3, none⟩ = some (.bool false)
theorem zc_of {w : World} {g : Nat} (h : w.heap[g]? = some (.cells #[.int .i64 0, .slice none 0 0, .bool false, .bool false] 59 (0, 0))) : Zc w g :=
  ⟨by rw [cell_of_row w g 1 _ _ _ h]; rfl, by rw [cell_of_row w g 2 _ _ _ h]; rfl, by rw [cell_of_row w g 3 _ _ _ h]; rfl⟩
set_option maxRecDepth 100000 in
set_option maxHeartbeats 400000 in
theorem icheck {w : World} {P : Option Addr} (h : Idle w P) : Calls Try.prog 28 #[.pointer P] w fun e w' => e = .returned (.int .i64 1) ∧ w = w' := by
  rcases h with rfl | ⟨g, rfl, hg⟩
  · go_enter Try.func28, Try.ntmps28
    go_wp2_with fail
    go_ret
    exact ⟨rfl, rfl⟩
  · obtain ⟨c1, c2, c3⟩ := zc_of hg
    clear hg
    go_enter Try.func28, Try.ntmps28
    go_wp2_with fail
    go_ret
    exact ⟨rfl, rfl⟩
set_option maxRecDepth 100000 in
set_option maxHeartbeats 400000 in
theorem ifeed {w : World} {P : Option Addr} (h : Idle w P) (v : Value) : Calls Try.prog 13 #[.pointer P, v] w fun e w' => e = .returned (.int .i64 1) ∧ w = w' := by
  have HC := Lib.hid (icheck h)
  clear h
  go_enter Try.func13, Try.ntmps13
  go_wp2_with fail
  refine HC.out.mono ?_
  rintro e w' ⟨rfl, rfl⟩
  go_wp2_with fail
  go_ret
  exact ⟨rfl, rfl⟩
set_option maxRecDepth 100000 in
set_option maxHeartbeats 400000 in
theorem ineed {w : World} {P : Option Addr} (h : Idle w P) : Calls Try.prog 19 #[.pointer P] w fun e w' => e = .returned (.int .i64 0) ∧ w = w' := by
  have HC := Lib.hid (icheck h)
  clear h
  go_enter Try.func19, Try.ntmps19
  go_wp2_with fail
  refine HC.out.mono ?_
  rintro e w' ⟨rfl, rfl⟩
  go_wp2_with fail
  go_ret
  exact ⟨rfl, rfl⟩
set_option maxRecDepth 100000 in
set_option maxHeartbeats 400000 in
theorem iheld {w : World} {P : Option Addr} (h : Idle w P) : Calls Try.prog 18 #[.pointer P] w fun e w' => e = .returned (.int .i64 0) ∧ w = w' := by
  rcases h with rfl | ⟨g, rfl, hg⟩
  · go_enter Try.func18, Try.ntmps18
    go_wp2_with fail
    go_ret
    exact ⟨rfl, rfl⟩
  · obtain ⟨c1, c2, c3⟩ := zc_of hg
    clear hg
    go_enter Try.func18, Try.ntmps18
    go_wp2_with fail
    go_ret
    exact ⟨rfl, rfl⟩
set_option maxRecDepth 100000 in
set_option maxHeartbeats 400000 in
theorem iclosed {w : World} {P : Option Addr} (h : Idle w P) : Calls Try.prog 21 #[.pointer P] w fun e w' => e = .returned (.bool false) ∧ w = w' := by
  rcases h with rfl | ⟨g, rfl, hg⟩
  · go_enter Try.func21, Try.ntmps21
    go_wp2_with fail
    go_ret
    exact ⟨rfl, rfl⟩
  · obtain ⟨c1, c2, c3⟩ := zc_of hg
    clear hg
    go_enter Try.func21, Try.ntmps21
    go_wp2_with fail
    go_ret
    exact ⟨rfl, rfl⟩
set_option maxRecDepth 100000 in
set_option maxHeartbeats 400000 in
theorem icopy {w : World} {P : Option Addr} (h : Idle w P) : Calls Try.prog 17 #[.pointer P] w fun e w' => e = .returned (.pointer none) ∧ w = w' := by
  rcases h with rfl | ⟨g, rfl, hg⟩
  · go_enter Try.func17, Try.ntmps17
    go_wp2_with fail
    go_ret
    exact ⟨rfl, rfl⟩
  · obtain ⟨c1, c2, c3⟩ := zc_of hg
    clear hg
    go_enter Try.func17, Try.ntmps17
    go_wp2_with fail
    go_ret
    exact ⟨rfl, rfl⟩
set_option maxRecDepth 100000 in
set_option maxHeartbeats 400000 in
theorem inext {w : World} {P : Option Addr} (h : Idle w P) : Calls Try.prog 15 #[.pointer P] w fun e w' => e = .returned (.tuple #[.agg #[.int .u8 0, .slice none 0 0], .int .i64 1]) ∧ Below w.heap.size w w' := by
  have HC := Lib.hid (icheck (h.below (below_new w (.cells #[.int .u8 0, .slice none 0 0] 39)) (Nat.le_refl _)))
  have HB := Lib.hid (below_new w (.cells #[.int .u8 0, .slice none 0 0] 39))
  clear h
  go_enter Try.func15, Try.ntmps15
  go_wp2_with fail
  refine HC.out.mono ?_
  rintro e w' ⟨rfl, rfl⟩
  go_wp2_with fail
  exact bodyPost_ret (v := .tuple #[.agg #[.int .u8 0, .slice none 0 0], .int .i64 1]) (by simp [results, Try.results15, go_sem]) rfl ⟨rfl, HB.out⟩
set_option maxRecDepth 100000 in
set_option maxHeartbeats 400000 in
theorem ilaw {w : World} {P : Option Addr} (h : Idle w P) : Calls Try.prog 26 #[.pointer P, .agg #[.int .u8 0, .slice none 0 0], .int .i64 1] w (boolOf true w) := by
  obtain ⟨w0, hw0⟩ : ∃ w0, w0 = w.alloc (.cells #[.int .u8 0, .slice none 0 0] 39) := ⟨_, rfl⟩
  have B0 : Below w.heap.size w w0 := by rw [hw0]; exact below_new _ _
  have ce0 : Cel w0 w.heap.size (.int .u8 0) (.slice none 0 0) := by rw [hw0]; exact Cel.new _ _ _ _
  have HN := Lib.hid (inext (h.below B0 (Nat.le_refl _)))
  have HB0 := Lib.hid B0; have CE := Lib.hid ce0
  have HQ : Hid (∀ W, Calls Try.prog 16 #[.agg #[.int .u8 0, .slice none 0 0], .agg #[.int .u8 0, .slice none 0 0]] W (boolOf true W)) := fun W => by
    have := requal_any 0 0 none none [] [] 0 0 W (Rb.nil _ _) (Rb.nil _ _)
    rw [eqv_self] at this; exact this
  clear h B0 ce0
  go_enter Try.func26, Try.ntmps26
  go_wp2_with fail
  rw [← hw0]
  clear hw0
  refine HN.out.mono ?_
  rintro e w1 ⟨rfl, hb⟩
  obtain ⟨cx0, cx1, _, _⟩ := CE.out.below hb (Nat.le_refl _)
  have hl1 : w.heap.size < w1.heap.size := Nat.lt_of_lt_of_le CE.out.lt hb.size
  have HB1 := Lib.hid (HB0.out.trans (hb.mono HB0.out.size))
  clear hb
  go_wp2_with fail
  refine (HQ.out _).mono ?_
  rintro e w2 ⟨rfl, hb⟩
  have HB2 := Lib.hid (step1 HB1.out hb)
  clear hb
  go_wp2_with fail
  go_ret
  exact ⟨ret_b (by simp), HB2.out⟩
set_option maxRecDepth 100000 in
set_option maxHeartbeats 2000000 in
theorem nil_walk (A : Option Addr) (c : Nat) (l : Bs) (W : World) (_ha : Arg W A l c) :
    Calls Try.prog 6 #[.slice A l.length c] W (boolOf true W) := by
  have HK := known_hid
  by_cases hl : 300 < l.length
  · have h1 : (300 : Int) < (l.length : Int) := by omega
    clear hl
    go_enter Try.func6, Try.ntmps6
    go_wp2_with fail
    refine (HK.out _).mono ?_
    rintro e w1 ⟨rfl, hb⟩
    go_wp2_with fail
    go_ret
    exact ⟨rfl, hb⟩
  · have h1 : (l.length : Int) ≤ 300 := by omega
    obtain ⟨w2, hw2⟩ : ∃ w2, w2 = (W.alloc (.cells #[.int .i64 0, .slice none 0 0, .bool false, .bool false] 59)).alloc (.cells #[.pointer none, .pointer (some ⟨W.heap.size, 0, none⟩)] 25) := ⟨_, rfl⟩
    have HB2 : Hid (Below W.heap.size W w2) := by show Below _ _ _; rw [hw2]; exact two_below _ _ _
    have hz2 : w2.heap.size = W.heap.size + 1 + 1 := by rw [hw2]; simp
    have HI : Hid (Idle w2 (some ⟨W.heap.size, 0, none⟩)) := by
      refine Or.inr ⟨_, rfl, ?_⟩
      rw [hw2, heap_alloc_old _ _ (by simp)]
      exact heap_alloc_new W _
    have r0 : w2.cell? ⟨W.heap.size + 1, 0, none⟩ = some (.pointer none) ∧ w2.cell? ⟨W.heap.size + 1, 1, none⟩ = some (.pointer (some ⟨W.heap.size, 0, none⟩)) := by
      have h0 := heap_alloc_new (W.alloc (.cells #[.int .i64 0, .slice none 0 0, .bool false, .bool false] 59)) (.cells #[.pointer none, .pointer (some ⟨W.heap.size, 0, none⟩)] 25)
      rw [← hw2, World.size_alloc] at h0
      exact ⟨by rw [cell_of_row w2 _ 0 _ _ _ h0]; rfl, by rw [cell_of_row w2 _ 1 _ _ _ h0]; rfl⟩
    have HR := Lib.hid r0
    clear hl r0
    go_enter Try.func6, Try.ntmps6
    go_wp2_with fail
    rw [← hw2]
    clear hw2
    go_loopw [15] (fun i wr => ∃ k : Nat, k ≤ 2 ∧ i = .int .i64 (k : Int) ∧ Below w2.heap.size w2 wr) (fun i _ => 2 - (intOf i).toNat)
    case atStart => exact ⟨0, by omega, rfl, Below.refl _ _⟩
    case round =>
      obtain ⟨k, hk, rfl, hbr⟩ := hrel
      have HBR := Lib.hid hbr
      by_cases hlt : k < 2
      · have hP : ∃ P, Idle wr P ∧ wr.cell? ⟨W.heap.size + 1, k, none⟩ = some (.pointer P) := by
          obtain ⟨r0, r1⟩ := HR.out
          rcases (show k = 0 ∨ k = 1 by omega) with rfl | rfl
          · exact ⟨none, Or.inl rfl, by rw [hbr.cell (p := ⟨W.heap.size + 1, 0, none⟩) (by show W.heap.size + 1 < w2.heap.size; omega)]; exact r0⟩
          · exact ⟨_, HI.out.below hbr (Nat.le_refl _), by rw [hbr.cell (p := ⟨W.heap.size + 1, 1, none⟩) (by show W.heap.size + 1 < w2.heap.size; omega)]; exact r1⟩
        obtain ⟨P, hP, hc⟩ := hP
        have HP := Lib.hid hP
        have i1 : (k : Int) < 2 := by omega
        clear hP hbr
        go_wp2_with fail
        refine (ifeed HP.out _).mono ?_
        rintro e w3 ⟨rfl, rfl⟩
        go_wp2_with fail
        refine (ilaw HP.out).mono ?_
        rintro e w4 ⟨rfl, hb⟩
        have HP4 := Lib.hid (HP.out.below hb (Nat.le_refl _))
        have HB4 := Lib.hid (step0 HBR.out hb)
        clear hb
        go_wp2_with fail
        refine (ineed HP4.out).mono ?_
        rintro e w5 ⟨rfl, rfl⟩
        go_wp2_with fail
        refine (iheld HP4.out).mono ?_
        rintro e w5 ⟨rfl, rfl⟩
        go_wp2_with fail
        refine (iclosed HP4.out).mono ?_
        rintro e w5 ⟨rfl, rfl⟩
        go_wp2_with fail
        refine (icopy HP4.out).mono ?_
        rintro e w5 ⟨rfl, rfl⟩
        go_wp2_with fail
        go_roundw
        case rel => exact ⟨k + 1, by omega, by go_num, HB4.out⟩
        case measure => simp [intOf]; omega
      · obtain rfl : k = 2 := by omega
        go_wp2_with fail
        refine (HK.out _).mono ?_
        rintro e w5 ⟨rfl, hb5⟩
        have HB5 := Lib.hid (step0 (HB2.out.trans (HBR.out.mono HB2.out.size)) hb5)
        clear hb5
        go_wp2_with fail
        go_ret
        exact ⟨rfl, HB5.out⟩
end Go.Proofs.Ytmphielkohnpgaa.Dg
