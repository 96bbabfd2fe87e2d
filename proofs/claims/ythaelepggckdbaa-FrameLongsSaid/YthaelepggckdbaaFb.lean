/- Proves that FrameLongs returns true at every argument. Conditions: as the row gives them. -/
import Derived.Test.YthaelepggckdbaaFdr
namespace Go.Proofs.Ythaelepggckdbaa.Fb
open Go.RowKit Vm Ap Vw Va Vr Gc Fm Fc Fw Fr Frr Fh Fk Fdr

set_option maxRecDepth 100000 in
set_option maxHeartbeats 1000000 in
theorem longs_over (more less : Int) (W : World) (h : more < -3 ∨ 3 < more ∨ less < 0 ∨ 5 < less) :
    Calls Try.prog 5 #[.int .i64 more, .int .i64 less] W (boolOf true W) := by
  have HK := known_hid
  by_cases h1 : more < -3
  · have d1 : decide (more < -3) = true := by simp; omega
    clear h
    go_enter Try.func5, Try.ntmps5
    go_wp2_with fail
    refine (HK.out _).mono ?_
    rintro e w1 ⟨rfl, hb⟩
    go_wp2_with fail
    go_ret
    exact ⟨rfl, hb⟩
  · have d1 : decide (more < -3) = false := by simp; omega
    by_cases h2 : 3 < more
    · have d2 : decide (3 < more) = true := by simp; omega
      clear h
      go_enter Try.func5, Try.ntmps5
      go_wp2_with fail
      refine (HK.out _).mono ?_
      rintro e w1 ⟨rfl, hb⟩
      go_wp2_with fail
      go_ret
      exact ⟨rfl, hb⟩
    · have d2 : decide (3 < more) = false := by simp; omega
      by_cases h3 : less < 0
      · have d3 : decide (less < 0) = true := by simp; omega
        clear h
        go_enter Try.func5, Try.ntmps5
        go_wp2_with fail
        refine (HK.out _).mono ?_
        rintro e w1 ⟨rfl, hb⟩
        go_wp2_with fail
        go_ret
        exact ⟨rfl, hb⟩
      · have d3 : decide (less < 0) = false := by simp; omega
        have d4 : decide (5 < less) = true := by simp; omega
        clear h
        go_enter Try.func5, Try.ntmps5
        go_wp2_with fail
        refine (HK.out _).mono ?_
        rintro e w1 ⟨rfl, hb⟩
        go_wp2_with fail
        go_ret
        exact ⟨rfl, hb⟩

/-- How many bytes a frame of nearly 2^21 bytes has. -/
theorem long_len (n : Nat) (h1 : 2097149 ≤ n) (h2 : n ≤ 2097152) : (encN (n + 1)).length = if n < 2097151 then 3 else 4 := by
  obtain ⟨e1, e2⟩ := enc_len (n + 1)
  have hp := enc_pos (n + 1)
  have p3 : (128 : Nat) ^ 3 = 2097152 := by decide
  have p2 : (128 : Nat) ^ 2 = 16384 := by decide
  have p4 : (128 : Nat) ^ 4 = 268435456 := by decide
  have hlo : 3 ≤ (encN (n + 1)).length := by
    rcases Nat.lt_or_ge (encN (n + 1)).length 3 with h | h
    · have : (128 : Nat) ^ (encN (n + 1)).length ≤ 128 ^ 2 := Nat.pow_le_pow_right (by omega) (by omega)
      omega
    · exact h
  have hhi : (encN (n + 1)).length ≤ 4 := by
    rcases Nat.lt_or_ge 4 (encN (n + 1)).length with h | h
    · have : (128 : Nat) ^ 4 ≤ 128 ^ ((encN (n + 1)).length - 1) := Nat.pow_le_pow_right (by omega) (by omega)
      omega
    · exact h
  split
  · rcases e2 with e2 | e2
    · omega
    · rcases Nat.lt_or_ge 3 (encN (n + 1)).length with h | h
      · have e : (encN (n + 1)).length = 4 := by omega
        rw [e] at e2; simp at e2; omega
      · omega
  · rcases Nat.lt_or_ge (encN (n + 1)).length 4 with h | h
    · have e : (encN (n + 1)).length = 3 := by omega
      rw [e] at e1; omega
    · omega

set_option maxRecDepth 100000 in
set_option maxHeartbeats 8000000 in
theorem longs_main (more less : Int) (W : World) (h1 : -3 ≤ more) (h2 : more ≤ 3) (h3 : 0 ≤ less) (h4 : less ≤ 5) :
    Calls Try.prog 5 #[.int .i64 more, .int .i64 less] W (boolOf true W) := by
  have HK := known_hid
  have d1 : decide (more < -3) = false := by simp; omega
  have d2 : decide (3 < more) = false := by simp; omega
  have d3 : decide (less < 0) = false := by simp; omega
  have d4 : decide (5 < less) = false := by simp; omega
  obtain ⟨n, hn⟩ : ∃ n : Nat, (n : Int) = 2097152 + more := ⟨(2097152 + more).toNat, by omega⟩
  obtain ⟨w1, hmk, hrz, hb1⟩ := make_zeros n W (by omega)
  obtain ⟨zs, hzs⟩ : ∃ zs : Bs, zs = List.replicate n 0 := ⟨_, rfl⟩
  have hzl : zs.length = n := by rw [hzs, List.length_replicate]
  rw [← hzs] at hrz
  rw [hn] at hmk
  clear hzs
  obtain rfl := hzl
  obtain ⟨w2, hw2⟩ : ∃ w2, w2 = w1.alloc (.cells #[.int .u8 3, .slice (some ⟨W.heap.size, 0, none⟩) zs.length zs.length] 24) := ⟨_, rfl⟩
  have b2 : Below w1.heap.size w1 w2 := by rw [hw2]; exact alloc_below _ _
  have ce : Cel w2 w1.heap.size (.int .u8 3) (.slice (some ⟨W.heap.size, 0, none⟩) zs.length zs.length) := by rw [hw2]; exact Cel.new _ _ _ _
  have RZ := Lib.hid (hrz.below b2 (Nat.le_refl _))
  have HB2 := Lib.hid (step0 hb1 b2)
  have CE := Lib.hid ce
  obtain ⟨cz0, cz1, _, _⟩ := ce
  have HN := Lib.hid hn
  clear hrz b2 hb1
  by_cases hm : 0 < more
  · have HW : Hid (∀ w, Calls Try.prog 9 #[.agg #[.int .u8 3, .slice (some ⟨W.heap.size, 0, none⟩) zs.length zs.length]] w (writePost w [] 5)) := fun w => fwrite_no 3 _ zs _ w (by omega)
    have HS : Hid (∀ w, Calls Try.prog 11 #[.agg #[.int .u8 3, .slice (some ⟨W.heap.size, 0, none⟩) zs.length zs.length]] w (twoPost w 0 5)) := fun w => fsize_no 3 _ zs _ w (by omega)
    clear hn
    go_enter Try.func5, Try.ntmps5
    go_wp2_with fail
    rw [← hw2]
    clear hw2
    refine (HW.out _).mono ?_
    rintro e w3 ⟨v3, rfl, h3, b3⟩
    obtain ⟨X, x, shX⟩ := own_shape h3
    obtain rfl := shX.val
    have HB3 := Lib.hid (step0 HB2.out b3)
    clear h3 shX cz0 cz1
    obtain ⟨cz0, cz1, _, _⟩ := CE.out.below b3 (Nat.le_refl _)
    clear b3
    go_wp2_with fail
    refine (HS.out _).mono ?_
    rintro e w4 ⟨rfl, b4⟩
    have HB4 := Lib.hid (step0 HB3.out b4)
    clear b4
    go_wp2_with fail
    refine (HK.out _).mono ?_
    rintro e w5 ⟨rfl, b5⟩
    have HB5 := Lib.hid (step0 HB4.out b5)
    clear b5
    go_wp2_with fail
    go_ret
    exact ⟨rfl, HB5.out⟩
  · have hm0 : more ≤ 0 := by omega
    have hz : zs.length ≤ 2097152 := by omega
    have hlen := long_len zs.length (by omega) hz
    obtain ⟨z, hzz⟩ : ∃ z, (wire 3 zs).length = z + 1 := ⟨(wire 3 zs).length - 1, by have := wire_pos 3 zs; omega⟩
    have hz5 : z = (encN (zs.length + 1)).length + zs.length := by have := wire_len 3 zs; omega
    have HWR : Hid (∀ w, Rb w (some ⟨W.heap.size, 0, none⟩) zs → Calls Try.prog 9 #[.agg #[.int .u8 3, .slice (some ⟨W.heap.size, 0, none⟩) zs.length zs.length]] w fun e w' => ∃ X y, e = .returned (.tuple #[.slice X (z + 1) y, .int .i64 0]) ∧ Sh w.heap.size w' (.slice X (z + 1) y) (wire 3 zs) X y ∧ Below w.heap.size w w') := fun w hw => by
      refine (fwrite_ok 3 _ zs _ w hw (fun e => by cases e) hz).mono ?_
      rintro e w' ⟨v, rfl, g1, g2⟩
      obtain ⟨X, y, sh⟩ := own_shape g1
      have e1 := sh.val
      rw [hzz] at e1
      subst e1
      exact ⟨X, y, rfl, sh, g2⟩
    have HS : Hid (∀ w, Calls Try.prog 11 #[.agg #[.int .u8 3, .slice (some ⟨W.heap.size, 0, none⟩) zs.length zs.length]] w (twoPost w ((z : Int) + 1) 0)) := fun w => by
      have := fsize_ok 3 (some ⟨W.heap.size, 0, none⟩) zs zs.length w hz
      rw [hzz] at this; exact this
    have hzb : z ≤ 2097156 := by rw [hz5, hlen]; split <;> omega
    have hwant : (more < -1 ∧ (z : Int) + 1 = 2097152 + more + 5 - 1) ∨ (-1 ≤ more ∧ (z : Int) + 1 = 2097152 + more + 5) := by
      rw [hz5, hlen]; split <;> omega
    have HMORE : Hid (-less < more → readV (wire 3 zs) (2097152 - less) = (0, [], 0, 5)) := fun h => by
      have := read_more 3 zs [] (2097152 - less) (by omega) (by omega) (by unfold big; omega)
      rwa [List.append_nil] at this
    have HFIT : Hid (more ≤ -less → readV (wire 3 zs) (2097152 - less) = (3, zs, z + 1, 0)) := fun h => by
      have := read_put 3 zs [] (2097152 - less) (by omega) (by omega)
      rwa [List.append_nil, hzz] at this
    have HCUT : Hid (more ≤ -less → readV ((wire 3 zs).take z) (2097152 - less) = (0, [], 0, 4)) := fun h => read_cut 3 zs (2097152 - less) z (by omega) (by omega) (by omega)
    have HZZ := Lib.hid hzz
    clear hlen hz5 hzz hn
    generalize wire 3 zs = wi at *
    have hwant' : (more < -1 ∧ (z : Int) + 1 ≤ 2097152 + more + 5 - 1 ∧ 2097152 + more + 5 - 1 ≤ (z : Int) + 1) ∨ (-1 ≤ more ∧ (z : Int) + 1 ≤ 2097152 + more + 5 ∧ 2097152 + more + 5 ≤ (z : Int) + 1) := by omega
    clear hwant
    rcases hwant' with ⟨hs1, hs2, hs3⟩ | ⟨hs1, hs2, hs3⟩
    all_goals
      go_enter Try.func5, Try.ntmps5
      go_wp2_with fail
      rw [← hw2]
      clear hw2
      refine (HWR.out _ RZ.out).mono ?_
      rintro e w3 ⟨X, x, rfl, hx, b3⟩
      have SX := Lib.hid hx
      have HB3 := Lib.hid (step0 HB2.out b3)
      have RZ3 := Lib.hid (RZ.out.below b3 (Nat.le_refl _))
      have CE3 := Lib.hid (CE.out.below b3 (Nat.le_refl _))
      clear hx cz0 cz1 b3
      obtain ⟨cz0, cz1, _, _⟩ := CE3.out
      go_wp2_with fail
      refine (HS.out _).mono ?_
      rintro e w4 ⟨rfl, b4⟩
      have HB4 := Lib.hid (step0 HB3.out b4)
      have RZ4 := Lib.hid (RZ3.out.below b4 (Nat.le_refl _))
      have RX4 := Lib.hid (SX.out.rd.below b4 (Nat.le_refl _))
      have CE4 := Lib.hid (CE3.out.below b4 (Nat.le_refl _))
      have hxle : z + 1 ≤ x := by have := SX.out.le; have := HZZ.out; omega
      have hxm : x ≤ 9223372036854775807 := by have := SX.out.max; unfold maxLen at this; exact this
      clear b4 cz0 cz1
      obtain ⟨cz0, cz1, _, _⟩ := CE4.out
      by_cases hml : more > -less
      · have i1 : -less < more := by omega
        have HV := Lib.hid (HMORE.out i1)
        clear hml
        go_wp2_with fail
        refine (reads_true X none wi [] (z + 1) x 0 0 0 (2097152 - less) 0 0 5 0 5 w4 HZZ.out rfl RX4.out (by rw [HZZ.out]; omega) hxle (by omega) (by omega) (Rb.nil _ _) HV.out rfl rfl rfl).mono ?_
        rintro e w5 ⟨rfl, b5⟩
        have HB5 := Lib.hid (step0 HB4.out b5)
        clear b5
        go_wp2_with fail
        refine (HK.out _).mono ?_
        rintro e w6 ⟨rfl, b6⟩
        have HB6 := Lib.hid (step0 HB5.out b6)
        clear b6
        go_wp2_with fail
        go_ret
        exact ⟨rfl, HB6.out⟩
      · have i1 : more ≤ -less := by omega
        have HV := Lib.hid (HFIT.out i1)
        have HV2 := Lib.hid (HCUT.out i1)
        clear hml
        go_wp2_with fail
        refine (reads_true X (some ⟨W.heap.size, 0, none⟩) wi zs (z + 1) x zs.length zs.length 3 (2097152 - less) 3 ((z : Int) + 1) 0 (z + 1) 0 w4 HZZ.out rfl RX4.out (by rw [HZZ.out]; omega) hxle (by omega) (by omega) RZ4.out HV.out rfl (by omega) rfl).mono ?_
        rintro e w5 ⟨rfl, b5⟩
        have HB5 := Lib.hid (step0 HB4.out b5)
        have RX5 := Lib.hid ((RX4.out.below b5 (Nat.le_refl _)).take z)
        have HTL : Hid ((wi.take z).length = z) := by show _ = _; rw [List.length_take, HZZ.out]; omega
        clear b5
        go_wp2_with fail
        refine (reads_true X none (wi.take z) [] z x 0 0 0 (2097152 - less) 0 0 4 0 4 w5 HTL.out rfl RX5.out (by rw [HTL.out]; omega) (by omega) (by omega) (by omega) (Rb.nil _ _) HV2.out rfl rfl rfl).mono ?_
        rintro e w6 ⟨rfl, b6⟩
        have HB6 := Lib.hid (step0 HB5.out b6)
        clear b6
        go_wp2_with fail
        refine (HK.out _).mono ?_
        rintro e w7 ⟨rfl, b7⟩
        have HB7 := Lib.hid (step0 HB6.out b7)
        clear b7
        go_wp2_with fail
        go_ret
        exact ⟨rfl, HB7.out⟩
theorem longs_walk (more less : Int) (W : World) (_ : (Lit.int .i64 more).wf = true) (_ : (Lit.int .i64 less).wf = true) :
    Calls Try.prog 5 #[.int .i64 more, .int .i64 less] W (boolOf true W) := by
  by_cases h : more < -3 ∨ 3 < more ∨ less < 0 ∨ 5 < less
  · exact longs_over more less W h
  · exact longs_main more less W (by omega) (by omega) (by omega) (by omega)
end Go.Proofs.Ythaelepggckdbaa.Fb
