/- Proves that the law's check of the document's own examples for package key returns true. Condition: the library's variable and the table of digits are laid. -/
import Derived.Test.YtjieiakgikhofaaDoorKa

namespace Go.Proofs.YtjieiakgikhofaaDoor.Kk
open Go.RowKit Km Kt Kv Kl Kc Ap Kx Ky Kr Ks Kf Kg Kj Ku Kz Ka

def zerosN (n : Nat) : Array Value := (List.replicate n (Value.int .u8 0)).toArray
def longN (n : Nat) : ByteArray := ⟨(List.replicate n (0 : UInt8)).toArray⟩
theorem longN_size (n : Nat) : (longN n).size = n := by unfold longN; show (List.replicate n (0 : UInt8)).toArray.size = n; simp
theorem convN (n : Nat) (w : World) : (convert 48 9 (.slice (some ⟨w.heap.size, 0, none⟩) n n)).run Tryd.prog (w.alloc (.cells (zerosN n) 5)) = .ok (.string (longN n)) (w.alloc (.cells (zerosN n) 5)) := by
  have := run_convert_bytes_back (P := Tryd.prog) (w.alloc (.cells (zerosN n) 5)) 48 9 5 ⟨w.heap.size, 0, none⟩ n (List.replicate n (0 : UInt8)) Tryd.underlying48 Tryd.underlying5 Tryd.underlying9 fun j hj => by
    have ha : (⟨w.heap.size, 0, none⟩ : Addr).add j = ⟨w.heap.size, j, none⟩ := by unfold Addr.add; split <;> simp_all
    rw [ha, cell_of_row _ _ j _ _ (0, 0) (heap_alloc_new w _)]
    rw [List.length_replicate] at hj
    simp [zerosN, hj]
  rw [List.length_replicate] at this
  exact this
def zeros : Array Value := zerosN 251
def longS : ByteArray := longN 251
theorem long_size : longS.size = 251 := longN_size 251
theorem mk_zeros (w : World) : (Instr.makeSlice 48 (.int .i64 251) (.int .i64 251)).run Tryd.prog w = .ok (.slice (some ⟨w.heap.size, 0, none⟩) 251 251) (w.alloc (.cells zeros 5)) := by
  kernel_rfl
theorem conv_zeros (w : World) : (convert 48 9 (.slice (some ⟨w.heap.size, 0, none⟩) 251 251)).run Tryd.prog (w.alloc (.cells zeros 5)) = .ok (.string longS) (w.alloc (.cells zeros 5)) := convN 251 w
theorem cut_size (n : Nat) (h : n ≤ 251) : (longS.extract 0 n).size = n := by rw [ByteArray.size_extract, long_size]; omega
theorem long_valid (n : Nat) (h : n ≤ 251) : validS (longS.extract 0 n) = decide (1 ≤ n ∧ n ≤ 250) := by unfold validS validL; rw [len_eq, cut_size n h]
theorem long_tag (n : Nat) (h : n ≤ 251) : validTagS (longS.extract 0 n) = decide (1 ≤ n ∧ n ≤ 64) := by unfold validTagS validTagL; rw [len_eq, cut_size n h]
theorem long_valid_all : validS longS = false := by unfold validS validL; rw [len_eq, long_size]; decide

set_option maxRecDepth 100000 in
set_option maxHeartbeats 2000000 in
theorem known_any (w : World) (he : Env w) : Calls Tryd.prog 10 #[] w (boolAfter w) := by
  have hmk := mk_zeros
  have hcv := conv_zeros
  have hlo1 : 250 ≤ longS.size := by rw [long_size]; omega
  have hlo2 : 65 ≤ longS.size := by rw [long_size]; omega
  have hlm : longS.size ≤ maxLen := by rw [long_size]; unfold maxLen; omega
  have HLM := Lib.hid hlm; clear hlm
  go_enter Tryd.func10, Tryd.ntmps10
  go_wp2_with fail
  refine (valid_at ⟨#[]⟩ false _ (sz [] (by simp)) (by decide)).mono ?_
  rintro e w1 ⟨rfl, rfl⟩
  clear hmk hcv
  go_wp2_with fail
  refine (valid_at (longS.extract 0 250) true _ (by rw [cut_size 250 (by omega)]; unfold maxLen; omega) (by rw [long_valid 250 (by omega)]; decide)).mono ?_
  rintro e w1 ⟨rfl, rfl⟩
  go_wp2_with fail
  refine (valid_at longS false _ HLM.out long_valid_all).mono ?_
  rintro e w1 ⟨rfl, rfl⟩
  go_wp2_with fail
  refine (validTag_at (longS.extract 0 65) false _ (by rw [cut_size 65 (by omega)]; unfold maxLen; omega) (by rw [long_tag 65 (by omega)]; decide)).mono ?_
  rintro e w1 ⟨rfl, rfl⟩
  go_wp2_with fail
  refine (validPre_at ⟨#[]⟩ true _ (sz [] (by simp)) (by decide)).mono ?_
  rintro e w1 ⟨rfl, rfl⟩
  go_wp2_with fail
  refine (has_at ⟨#[97, 47, 98]⟩ ⟨#[97, 47]⟩ true _ (by decide +kernel)).mono ?_
  rintro e w1 ⟨rfl, rfl⟩
  go_wp2_with fail
  refine (has_at ⟨#[97, 47, 98]⟩ ⟨#[98]⟩ false _ (by decide +kernel)).mono ?_
  rintro e w1 ⟨rfl, rfl⟩
  go_wp2_with fail
  refine (common_at ⟨#[97, 98, 99]⟩ ⟨#[97, 98, 100]⟩ 2 _ (sz [97, 98, 99] (by simp)) (by decide +kernel)).mono ?_
  rintro e w1 ⟨rfl, a1⟩
  have B1 := Lib.hid ((After.alloc w _).trans a1); clear a1
  go_wp2_with fail
  refine (common_at ⟨#[97]⟩ ⟨#[]⟩ 0 _ (sz [97] (by simp)) (by decide +kernel)).mono ?_
  rintro e w2 ⟨rfl, a2⟩
  have B2 := Lib.hid (B1.out.trans a2); clear a2 B1
  clear hlo1 hlo2
  go_wp2_with fail
  refine (segments_at ⟨#[97, 47, 47, 98, 47]⟩ ([[97], [], [98], []] : List Bs) 4 0 _ (env_after he B2.out) (sz [97, 47, 47, 98, 47] (by simp)) (by decide +kernel) rfl (by decide +kernel)).mono ?_
  rintro e w3 ⟨A1, c1, rfl, hc1, r3, a3⟩
  have R1_3 := Lib.hid r3
  have B3 := Lib.hid (B2.out.trans a3); clear a3 r3 B2 hc1
  go_wp2_with fail
  refine (folders_at ⟨#[97, 47, 47, 98, 47]⟩ ([[97, 47], [97, 47, 47], [97, 47, 47, 98, 47]] : List Bs) 3 0 _ (sz [97, 47, 47, 98, 47] (by simp)) (by decide +kernel) rfl (by decide +kernel)).mono ?_
  rintro e w4 ⟨A2, c2, rfl, hc2, r4, a4⟩
  have R2_4 := Lib.hid r4
  have R1_4 := Lib.hid (a4.rd _ _ R1_3.out); clear R1_3
  have B4 := Lib.hid (B3.out.trans a4); clear a4 r4 B3 hc2
  go_wp2_with fail
  refine (segments_at ⟨#[120]⟩ ([[120]] : List Bs) 1 0 _ (env_after he B4.out) (sz [120] (by simp)) (by decide +kernel) rfl (by decide +kernel)).mono ?_
  rintro e w5 ⟨A3, c3, rfl, hc3, r5, a5⟩
  have R3_5 := Lib.hid r5
  have R1_5 := Lib.hid (a5.rd _ _ R1_4.out); clear R1_4
  have R2_5 := Lib.hid (a5.rd _ _ R2_4.out); clear R2_4
  have B5 := Lib.hid (B4.out.trans a5); clear a5 r5 B4 hc3
  go_wp2_with fail
  refine (folders_at ⟨#[120]⟩ ([] : List Bs) 0 0 _ (sz [120] (by simp)) (by decide +kernel) rfl (by decide +kernel)).mono ?_
  rintro e w6 ⟨A4, c4, rfl, hc4, r6, a6⟩
  have R4_6 := Lib.hid r6
  have R1_6 := Lib.hid (a6.rd _ _ R1_5.out); clear R1_5
  have R2_6 := Lib.hid (a6.rd _ _ R2_5.out); clear R2_5
  have R3_6 := Lib.hid (a6.rd _ _ R3_5.out); clear R3_5
  have B6 := Lib.hid (B5.out.trans a6); clear a6 r6 B5 hc4
  go_wp2_with fail
  refine (list_true A1 _ 4 4 c1 _ ([[97], [], [98], []] : List Bs) ([[97], [], [98], []] : List Bs) 0 0 _ rfl rfl ((After.alloc w6 _).rd _ _ R1_6.out) (Rd.lit w6 ([[97], [], [98], []] : List Bs)) (by simp) rfl rfl).mono ?_
  rintro e w7 ⟨rfl, a7⟩
  have aa7 := (After.alloc w6 _).trans a7
  clear R1_6
  have R2_7 := Lib.hid (aa7.rd _ _ R2_6.out); clear R2_6
  have R3_7 := Lib.hid (aa7.rd _ _ R3_6.out); clear R3_6
  have R4_7 := Lib.hid (aa7.rd _ _ R4_6.out); clear R4_6
  have B7 := Lib.hid (B6.out.trans aa7); clear a7 aa7 B6
  go_wp2_with fail
  refine (list_true A2 _ 3 3 c2 _ ([[97, 47], [97, 47, 47], [97, 47, 47, 98, 47]] : List Bs) ([[97, 47], [97, 47, 47], [97, 47, 47, 98, 47]] : List Bs) 0 0 _ rfl rfl ((After.alloc w7 _).rd _ _ R2_7.out) (Rd.lit w7 ([[97, 47], [97, 47, 47], [97, 47, 47, 98, 47]] : List Bs)) (by simp) rfl rfl).mono ?_
  rintro e w8 ⟨rfl, a8⟩
  have aa8 := (After.alloc w7 _).trans a8
  clear R2_7
  have R3_8 := Lib.hid (aa8.rd _ _ R3_7.out); clear R3_7
  have R4_8 := Lib.hid (aa8.rd _ _ R4_7.out); clear R4_7
  have B8 := Lib.hid (B7.out.trans aa8); clear a8 aa8 B7
  go_wp2_with fail
  refine (list_true A3 _ 1 1 c3 _ ([[120]] : List Bs) ([[120]] : List Bs) 0 0 _ rfl rfl ((After.alloc w8 _).rd _ _ R3_8.out) (Rd.lit w8 ([[120]] : List Bs)) (by simp) rfl rfl).mono ?_
  rintro e w9 ⟨rfl, a9⟩
  have aa9 := (After.alloc w8 _).trans a9
  clear R3_8
  have R4_9 := Lib.hid (aa9.rd _ _ R4_8.out); clear R4_8
  have B9 := Lib.hid (B8.out.trans aa9); clear a9 aa9 B8
  go_wp2_with fail
  refine (list_true A4 none 0 0 c4 0 ([] : List Bs) ([] : List Bs) 0 0 _ rfl rfl R4_9.out (Rd.nil _ _) (by simp) rfl rfl).mono ?_
  rintro e w10 ⟨rfl, a10⟩
  have aa10 := a10
  clear R4_9
  have B10 := Lib.hid (B9.out.trans aa10); clear a10 aa10 B9
  go_wp2_with fail
  refine (join_at _ 3 _ ([[97], [], [98]] : List Bs) [97, 47, 47, 98] 0 _ (env_after he (B10.out.trans (After.alloc w10 _))) rfl (Rd.lit w10 ([[97], [], [98]] : List Bs)) (Nat.le_refl _) (by simp) (by simp) (by decide +kernel) (by decide +kernel)).mono ?_
  rintro e w11 ⟨rfl, a11⟩
  have B11 := Lib.hid (B10.out.trans ((After.alloc w10 _).trans a11)); clear a11 B10
  go_wp2_with fail
  refine (join_at none 0 0 ([] : List Bs) [] 2 _ (env_after he B11.out) rfl (Rd.nil _ _) (Nat.le_refl _) (by simp) (by simp) (by decide +kernel) (by decide +kernel)).mono ?_
  rintro e w12 ⟨rfl, a12⟩
  have B12 := Lib.hid (B11.out.trans a12); clear a12 B11
  go_wp2_with fail
  refine (join_at _ 1 _ ([[97, 47, 98]] : List Bs) [] 2 _ (env_after he (B12.out.trans (After.alloc w12 _))) rfl (Rd.lit w12 ([[97, 47, 98]] : List Bs)) (Nat.le_refl _) (by simp) (by simp) (by decide +kernel) (by decide +kernel)).mono ?_
  rintro e w13 ⟨rfl, a13⟩
  have B13 := Lib.hid (B12.out.trans ((After.alloc w12 _).trans a13)); clear a13 B12
  go_wp2_with fail
  refine (join_at _ 1 _ ([[]] : List Bs) [] 2 _ (env_after he (B13.out.trans (After.alloc w13 _))) rfl (Rd.lit w13 ([[]] : List Bs)) (Nat.le_refl _) (by simp) (by simp) (by decide +kernel) (by decide +kernel)).mono ?_
  rintro e w14 ⟨rfl, a14⟩
  have B14 := Lib.hid (B13.out.trans ((After.alloc w13 _).trans a14)); clear a14 B13
  go_wp2_with fail
  refine (one_true ⟨#[97, 47, 47, 98]⟩ ⟨#[97, 47, 47, 98]⟩ 0 0 _ rfl rfl).mono ?_
  rintro e w0 ⟨rfl, rfl⟩
  go_wp2_with fail
  refine (one_true ⟨#[]⟩ ⟨#[]⟩ 2 2 _ rfl rfl).mono ?_
  rintro e w0 ⟨rfl, rfl⟩
  go_wp2_with fail
  refine (one_true ⟨#[]⟩ ⟨#[]⟩ 2 2 _ rfl rfl).mono ?_
  rintro e w0 ⟨rfl, rfl⟩
  go_wp2_with fail
  refine (one_true ⟨#[]⟩ ⟨#[]⟩ 2 2 _ rfl rfl).mono ?_
  rintro e w0 ⟨rfl, rfl⟩
  go_wp2_with fail
  refine (tags_at _ 3 _ ([[98], [97], [98]] : List Bs) ([[97], [98]] : List Bs) 2 0 _ rfl (Rd.lit w14 ([[98], [97], [98]] : List Bs)) (by simp) (by simp) (by decide +kernel) rfl (by decide +kernel)).mono ?_
  rintro e w15 ⟨A5, c5, rfl, hc5, r15, a15⟩
  have R5_15 := Lib.hid r15
  have B15 := Lib.hid (B14.out.trans ((After.alloc w14 _).trans a15)); clear a15 r15 B14 hc5
  go_wp2_with fail
  refine (tags_at _ 2 _ ([[97], []] : List Bs) ([] : List Bs) 0 2 _ rfl (Rd.lit w15 ([[97], []] : List Bs)) (by simp) (by simp) (by decide +kernel) rfl (by decide +kernel)).mono ?_
  rintro e w16 ⟨A6, c6, rfl, hc6, r16, a16⟩
  have R6_16 := Lib.hid r16
  have R5_16 := Lib.hid (((After.alloc w15 _).trans a16).rd _ _ R5_15.out); clear R5_15
  have B16 := Lib.hid (B15.out.trans ((After.alloc w15 _).trans a16)); clear a16 r16 B15 hc6
  go_wp2_with fail
  refine (list_true A5 _ 2 2 c5 _ ([[97], [98]] : List Bs) ([[97], [98]] : List Bs) 0 0 _ rfl rfl ((After.alloc w16 _).rd _ _ R5_16.out) (Rd.lit w16 ([[97], [98]] : List Bs)) (by simp) rfl rfl).mono ?_
  rintro e w17 ⟨rfl, a17⟩
  have aa17 := (After.alloc w16 _).trans a17
  clear R5_16
  have R6_17 := Lib.hid (aa17.rd _ _ R6_16.out); clear R6_16
  have B17 := Lib.hid (B16.out.trans aa17); clear a17 aa17 B16
  go_wp2_with fail
  refine (list_true A6 none 0 0 c6 0 ([] : List Bs) ([] : List Bs) 2 2 _ rfl rfl R6_17.out (Rd.nil _ _) (by simp) rfl rfl).mono ?_
  rintro e w18 ⟨rfl, a18⟩
  have aa18 := a18
  clear R6_17
  have B18 := Lib.hid (B17.out.trans aa18); clear a18 aa18 B17
  go_wp2_with fail
  refine (text_at ⟨#[97, 32, 98, 37]⟩ [97, 37, 50, 48, 98, 37, 50, 53] _ (env_after he B18.out) (by decide) (by decide +kernel)).mono ?_
  rintro e w19 ⟨rfl, a19⟩
  have B19 := Lib.hid (B18.out.trans a19); clear a19 B18
  go_wp2_with fail
  refine (text_at ⟨#[]⟩ [34, 34] _ (env_after he B19.out) (by decide) (by decide +kernel)).mono ?_
  rintro e w20 ⟨rfl, a20⟩
  have B20 := Lib.hid (B19.out.trans a20); clear a20 B19
  go_wp2_with fail
  refine (text_at ⟨#[195, 164]⟩ [37, 99, 51, 37, 97, 52] _ (env_after he B20.out) (by decide) (by decide +kernel)).mono ?_
  rintro e w21 ⟨rfl, a21⟩
  have B21 := Lib.hid (B20.out.trans a21); clear a21 B20
  go_wp2_with fail
  refine (one_true ⟨#[97, 37, 50, 48, 98, 37, 50, 53]⟩ ⟨#[97, 37, 50, 48, 98, 37, 50, 53]⟩ 0 0 _ rfl rfl).mono ?_
  rintro e w0 ⟨rfl, rfl⟩
  go_wp2_with fail
  refine (one_true ⟨#[34, 34]⟩ ⟨#[34, 34]⟩ 0 0 _ rfl rfl).mono ?_
  rintro e w0 ⟨rfl, rfl⟩
  go_wp2_with fail
  refine (one_true ⟨#[37, 99, 51, 37, 97, 52]⟩ ⟨#[37, 99, 51, 37, 97, 52]⟩ 0 0 _ rfl rfl).mono ?_
  rintro e w0 ⟨rfl, rfl⟩
  go_wp2_with fail
  refine (parses_true ⟨#[97, 37, 50, 48, 98]⟩ ⟨#[97, 32, 98]⟩ 0 _ (env_after he B21.out) (sz [97, 37, 50, 48, 98] (by simp)) (by decide +kernel) (by decide +kernel)).mono ?_
  rintro e w22 ⟨rfl, a22⟩
  have B22 := Lib.hid (B21.out.trans a22); clear a22 B21
  go_wp2_with fail
  refine (parses_true ⟨#[37, 52, 49]⟩ ⟨#[]⟩ 6 _ (env_after he B22.out) (sz [37, 52, 49] (by simp)) (by decide +kernel) (by decide +kernel)).mono ?_
  rintro e w23 ⟨rfl, a23⟩
  have B23 := Lib.hid (B22.out.trans a23); clear a23 B22
  go_wp2_with fail
  refine (parses_true ⟨#[]⟩ ⟨#[]⟩ 6 _ (env_after he B23.out) (sz [] (by simp)) (by decide +kernel) (by decide +kernel)).mono ?_
  rintro e w24 ⟨rfl, a24⟩
  have B24 := Lib.hid (B23.out.trans a24); clear a24 B23
  go_wp2_with fail
  go_ret
  exact ⟨rfl, B24.out⟩
end Go.Proofs.YtjieiakgikhofaaDoor.Kk
