/- Proves that the law's check of the chapter's examples returns true. No condition. -/
import Derived.Test.YtngeocacbegjkaaVh
import Derived.Lib.SlBytesConst
namespace Go.Proofs.Ytngeocacbegjkaa.Vk
open Go.RowKit Vm Ap Vw Va Vab Vr Vrb Vg Vgr Vc Vp Vpr Vn Vs Vh

theorem enc300 : encN 300 = [172, 2] := by rw [enc_more (by omega), enc_small (by omega)]; rfl
theorem enc0 : encN 0 = [0] := by rw [enc_small (by omega)]; rfl
theorem enc2 : encN 2 = [2] := by rw [enc_small (by omega)]; rfl
theorem len_of (n s : Nat) (h : n < big) (hs : (Lib.bitLen (n ||| 1) + 6) / 7 = s) : (encN n).length = s := by rw [← size_eq n h]; exact hs
theorem size_at (n : Nat) (x s : Int) (w : World) (hx : (n : Int) = x) (hn : n < big) (hs : ((encN n).length : Int) = s) :
    Calls Try.prog 12 #[.int .u64 x] w fun e w' => e = .returned (.int .i64 s) ∧ w = w' := by subst hx; subst hs; exact size_any n w hn
theorem get_b (A : Option Addr) (l : Bs) (k c : Nat) (n s e : Int) (w : World) (hk : l.length = k) (hA : Rb w A l) (hl : l.length ≤ 1000000000) (hn : (getN l : Int) = n) (hs : (getS l : Int) = s) (he : (getE l : Int) = e) :
    Calls Try.prog 16 #[.slice A k c, .int .u64 n, .int .i64 s, .int .i64 e] w (boolBelow w) :=
  (get_true A l k c n s e w hk hA hl hn hs he).mono fun _ _ h => ⟨h.1, by rw [← h.2]; exact Below.refl _ _⟩
theorem stepRd {w a b : World} {g : Nat} (h : Below w.heap.size w a) (hg : w.heap.size ≤ g) (k : a.grownBy b (some g)) : Below w.heap.size w b := h.grown k h.size (fun j e => by injection e with e; omega)
theorem putB_at (A C : Option Addr) (l p m : Bs) (c d : Nat) (w : World) (hA : Rb w A l) (hc : A = none → c = 0) (hl : l.length ≤ 100000000) (hC : Rb w C p) (hd : C = none → d = 0) (hp : p.length ≤ 100000000) (h : l ++ (encN p.length ++ p) = m) :
    Calls Try.prog 11 #[.slice A l.length c, .slice C p.length d] w fun r w' => ∃ D f, r = .returned (.slice D m.length f) ∧ Rb w' D m ∧ Below w.heap.size w w' := by
  subst h
  refine (putB_any A C l p c d w hA hc hl hC hd hp).mono ?_
  rintro r w' ⟨v, rfl, h1, h2⟩
  obtain ⟨D, f, sh⟩ := own_shape h1
  exact ⟨D, f, by rw [sh.val], sh.rd, h2⟩
theorem enc_ab : ([] : Bs) ++ (encN ([97, 98] : Bs).length ++ [97, 98]) = [2, 97, 98] := by
  have e : encN ([97, 98] : Bs).length = [2] := enc2
  rw [e]; rfl
theorem putB_str (w : World) : Calls Try.prog 11 #[.slice none 0 0, .slice (some ⟨w.heap.size, 0, none⟩) 2 2] (w.alloc (.cells #[.int .u8 97, .int .u8 98] 5 (2, 3))) fun r w' => ∃ D f, r = .returned (.slice D 3 f) ∧ Rb w' D [2, 97, 98] ∧ Below (w.alloc (.cells #[.int .u8 97, .int .u8 98] 5 (2, 3))).heap.size (w.alloc (.cells #[.int .u8 97, .int .u8 98] 5 (2, 3))) w' :=
  putB_at none (some ⟨w.heap.size, 0, none⟩) [] [97, 98] [2, 97, 98] 0 2 _ (Rb.nil _ _) (fun _ => rfl) (by simp) (Rb.marked w [97, 98] (2, 3)) (fun e => by cases e) (by simp) enc_ab
theorem Rdr.ge {B : Nat} {w : World} {g : Nat} {l : Bs} (h : Rdr B w g l) : B ≤ g := by
  obtain ⟨A, c, _, h2, _⟩ := h
  exact h2
theorem new_lit (w : World) : Calls Try.prog 20 #[.slice (some ⟨w.heap.size, 0, none⟩) 4 4] (w.alloc (.cells #[.int .u8 5, .int .u8 1, .int .u8 120, .int .u8 7] 5)) (newPost (w.alloc (.cells #[.int .u8 5, .int .u8 1, .int .u8 120, .int .u8 7] 5)) [5, 1, 120, 7]) :=
  new_any (some ⟨w.heap.size, 0, none⟩) [5, 1, 120, 7] 4 _ (Rb.lit w [5, 1, 120, 7] (by simp)) (by simp)
theorem put70 (w : World) : Calls Try.prog 26 #[.slice (some ⟨w.heap.size, 0, none⟩) 1 1, .int .u64 0, .slice (some ⟨w.heap.size + 1, 0, none⟩) 2 2] ((w.alloc (.cells #[.int .u8 7] 5)).alloc (.cells #[.int .u8 7, .int .u8 0] 5)) (boolBelow ((w.alloc (.cells #[.int .u8 7] 5)).alloc (.cells #[.int .u8 7, .int .u8 0] 5))) := by
  have h1 : Rb (w.alloc (.cells #[.int .u8 7] 5)) (some ⟨w.heap.size, 0, none⟩) [7] := Rb.lit w [7] (by simp)
  have h2 := h1.below ((Below.refl _ _).alloc (Nat.le_refl _) (.cells #[.int .u8 7, .int .u8 0] 5)) (Nat.le_refl _)
  have hs : (w.alloc (.cells #[.int .u8 7] 5)).heap.size = w.heap.size + 1 := by simp
  have h3 : Rb ((w.alloc (.cells #[.int .u8 7] 5)).alloc (.cells #[.int .u8 7, .int .u8 0] 5)) (some ⟨(w.alloc (.cells #[.int .u8 7] 5)).heap.size, 0, none⟩) [7, 0] := Rb.lit _ [7, 0] (by simp)
  rw [hs] at h3
  generalize (w.alloc (.cells #[.int .u8 7] 5)).alloc (.cells #[.int .u8 7, .int .u8 0] 5) = W at *
  exact put_true (some ⟨w.heap.size, 0, none⟩) (some ⟨w.heap.size + 1, 0, none⟩) [7] [7, 0] 1 2 1 2 0 0 W rfl rfl rfl h2 (fun e => by cases e) (by simp) (by unfold big; omega) h3 (by rw [enc0]; rfl)
theorem lit_get (w : World) (l : Bs) (cs : Array Value) (k : Nat) (n s e : Int) (hcs : (l.map byteV).toArray = cs) (hk : l.length = k) (hl : l.length ≤ 1000000000) (hn : (getN l : Int) = n) (hs : (getS l : Int) = s) (he : (getE l : Int) = e) :
    Calls Try.prog 16 #[.slice (some ⟨w.heap.size, 0, none⟩) k k, .int .u64 n, .int .i64 s, .int .i64 e] (w.alloc (.cells cs 5)) (boolBelow (w.alloc (.cells cs 5))) := by
  subst hcs
  exact get_b _ l k k n s e _ hk (Rb.lit w l hl) hl hn hs he
theorem lit_part (w : World) (l p : Bs) (cs : Array Value) (ps : ByteArray) (k : Nat) (most s e : Int) (hcs : (l.map byteV).toArray = cs) (hps : (⟨p.toArray⟩ : ByteArray) = ps) (hk : l.length = k) (hl : l.length ≤ 1000000000) (hm1 : -9223372036854775808 ≤ most) (hm2 : most ≤ 9223372036854775807)
    (hp : (partV l most).1 = p) (hs : ((partV l most).2.1 : Int) = s) (he : ((partV l most).2.2 : Int) = e) :
    Calls Try.prog 18 #[.slice (some ⟨w.heap.size, 0, none⟩) k k, .int .i64 most, .string ps, .int .i64 s, .int .i64 e] (w.alloc (.cells cs 5)) (boolBelow (w.alloc (.cells cs 5))) := by
  subst hcs; subst hps
  exact part_true _ l p k k most s e _ hk (Rb.lit w l hl) hl (Nat.le_refl _) hm1 hm2 hp hs he

set_option maxRecDepth 100000 in
set_option maxHeartbeats 8000000 in
theorem known_any (w : World) : Calls Try.prog 9 #[] w (boolBelow w) := by
  have HB0 : Hid (Below w.heap.size w w) := Below.refl _ _
  obtain ⟨w0, hw0⟩ : ∃ w0, w0 = w := ⟨_, rfl⟩
  have HW := Lib.hid hw0
  go_enter Try.func9, Try.ntmps9
  clear hw0
  have kc := fun (w : World) (C : Array Value) (n c : Nat) => Lib.run_convert_bytes_const (P := Try.prog) w 22 5 C n c Try.underlying22 Try.underlying5
  go_wp2_with fail
  refine (size_at 0 _ 1 _ (by rfl) (by unfold big; omega) (by rw [len_of 0 1 (by unfold big; omega) (by decide +kernel)]; rfl)).mono ?_
  rintro e w' ⟨rfl, rfl⟩
  go_wp2_with fail
  refine (size_at 127 _ 1 _ (by rfl) (by unfold big; omega) (by rw [len_of 127 1 (by unfold big; omega) (by decide +kernel)]; rfl)).mono ?_
  rintro e w' ⟨rfl, rfl⟩
  go_wp2_with fail
  refine (size_at 128 _ 2 _ (by rfl) (by unfold big; omega) (by rw [len_of 128 2 (by unfold big; omega) (by decide +kernel)]; rfl)).mono ?_
  rintro e w' ⟨rfl, rfl⟩
  go_wp2_with fail
  refine (size_at 18446744073709551615 _ 10 _ (by rfl) (by unfold big; omega) (by rw [len_of 18446744073709551615 10 (by unfold big; omega) (by decide +kernel)]; rfl)).mono ?_
  rintro e w' ⟨rfl, rfl⟩
  go_wp2_with fail
  refine (put_true none _ [] [172, 2] _ _ _ _ 300 _ _ rfl rfl rfl (Rb.nil _ _) (fun _ => rfl) (by simp) (by unfold big; omega) (Rb.lit _ [172, 2] (by simp)) (by rw [enc300]; rfl)).mono ?_
  rintro e w1 ⟨rfl, b⟩
  have HB1 := Lib.hid (step1 HB0.out b); clear b HB0
  go_wp2_with fail
  refine (put70 _).mono ?_
  rintro e w2 ⟨rfl, b⟩
  have HB2 := Lib.hid (step2 HB1.out b); clear b HB1
  go_wp2_with fail
  refine (lit_get _ [172, 2, 9] _ 3 300 2 0 rfl rfl (by simp) (by decide +kernel) (by decide +kernel) (by decide +kernel)).mono ?_
  rintro e w3 ⟨rfl, b⟩
  have HB3 := Lib.hid (step1 HB2.out b); clear b HB2
  go_wp2_with fail
  refine (get_b _ [] _ _ 0 0 4 _ rfl (Rb.nil _ _) (by simp) (by decide +kernel) (by decide +kernel) (by decide +kernel)).mono ?_
  rintro e w4 ⟨rfl, b⟩
  have HB4 := Lib.hid (step0 HB3.out b); clear b HB3
  go_wp2_with fail
  refine (lit_get _ [172] _ 1 0 0 4 rfl rfl (by simp) (by decide +kernel) (by decide +kernel) (by decide +kernel)).mono ?_
  rintro e w5 ⟨rfl, b⟩
  have HB5 := Lib.hid (step1 HB4.out b); clear b HB4
  go_wp2_with fail
  refine (lit_get _ [128, 0] _ 2 0 0 6 rfl rfl (by simp) (by decide +kernel) (by decide +kernel) (by decide +kernel)).mono ?_
  rintro e w6 ⟨rfl, b⟩
  have HB6 := Lib.hid (step1 HB5.out b); clear b HB5
  go_wp2_with fail
  refine (lit_get _ [0] _ 1 0 1 0 rfl rfl (by simp) (by decide +kernel) (by decide +kernel) (by decide +kernel)).mono ?_
  rintro e w7 ⟨rfl, b⟩
  have HB7 := Lib.hid (step1 HB6.out b); clear b HB6
  go_wp2_with fail
  refine (lit_get _ [255, 255, 255, 255, 255, 255, 255, 255, 255, 1] _ 10 18446744073709551615 10 0 rfl rfl (by simp) (by decide +kernel) (by decide +kernel) (by decide +kernel)).mono ?_
  rintro e w8 ⟨rfl, b⟩
  have HB8 := Lib.hid (step1 HB7.out b); clear b HB7
  go_wp2_with fail
  refine (lit_get _ [255, 255, 255, 255, 255, 255, 255, 255, 255, 2] _ 10 0 0 6 rfl rfl (by simp) (by decide +kernel) (by decide +kernel) (by decide +kernel)).mono ?_
  rintro e w9 ⟨rfl, b⟩
  have HB9 := Lib.hid (step1 HB8.out b); clear b HB8
  go_wp2_with fail
  refine (putB_str _).mono ?_
  rintro e w10 ⟨C, d, rfl, h1, b⟩
  have hcv : (convert 22 9 (.slice C 3 d)).run Try.prog w10 = .ok (.string ⟨#[2, 97, 98]⟩) w10 := conv_str d h1
  clear h1
  have HB10 := Lib.hid (step1 HB9.out b); clear b HB9
  go_wp2_with fail
  refine (lit_part _ [2, 97, 98, 99] [97, 98] _ _ 4 2 3 0 rfl rfl rfl (by simp) (by omega) (by omega) (by decide +kernel) (by decide +kernel) (by decide +kernel)).mono ?_
  rintro e w11 ⟨rfl, b⟩
  clear hcv
  have HB11 := Lib.hid (step1 HB10.out b); clear b HB10
  go_wp2_with fail
  refine (lit_part _ [2, 97] [] _ _ 2 5 0 4 rfl rfl rfl (by simp) (by omega) (by omega) (by decide +kernel) (by decide +kernel) (by decide +kernel)).mono ?_
  rintro e w12 ⟨rfl, b⟩
  have HB12 := Lib.hid (step1 HB11.out b); clear b HB11
  go_wp2_with fail
  refine (lit_part _ [2, 97, 98] [] _ _ 3 1 0 5 rfl rfl rfl (by simp) (by omega) (by omega) (by decide +kernel) (by decide +kernel) (by decide +kernel)).mono ?_
  rintro e w13 ⟨rfl, b⟩
  have HB13 := Lib.hid (step1 HB12.out b); clear b HB12
  go_wp2_with fail
  refine (lit_part _ [0] [] _ _ 1 0 1 0 rfl rfl rfl (by simp) (by omega) (by omega) (by decide +kernel) (by decide +kernel) (by decide +kernel)).mono ?_
  rintro e w14 ⟨rfl, b⟩
  have HB14 := Lib.hid (step1 HB13.out b); clear b HB13
  go_wp2_with fail
  refine (new_lit _).mono ?_
  rintro e w15 ⟨g, rfl, hr, b⟩
  have HG : Hid (w.heap.size ≤ g) := Nat.le_trans (Nat.le_trans HB14.out.size (by simp)) (Rdr.ge hr)
  have R0 := Lib.hid hr
  have HB15 := Lib.hid (step1 HB14.out b)
  clear hr b HB14
  go_wp2_with fail
  refine (number_true _ _ g [5, 1, 120, 7] [1, 120, 7] 5 0 R0.out (by simp) (by decide +kernel) (by decide +kernel) (by decide +kernel)).mono ?_
  rintro e w16 ⟨rfl, hr, b⟩
  have R1 := Lib.hid hr
  have HB16 := Lib.hid (stepRd HB15.out HG.out b)
  clear hr b R0 HB15
  go_wp2_with fail
  refine (bytes_true _ _ g [1, 120, 7] [120] [7] 9 0 R1.out (by simp) (by omega) (by omega) (by decide +kernel) (by decide +kernel) (by decide +kernel)).mono ?_
  rintro e w17 ⟨rfl, hr, b⟩
  have R2 := Lib.hid hr
  have HB17 := Lib.hid (stepRd HB16.out HG.out b)
  clear hr b R1 HB16
  go_wp2_with fail
  refine (bytes_true _ _ g [7] [] [7] 9 4 R2.out (by simp) (by omega) (by omega) (by decide +kernel) (by decide +kernel) (by decide +kernel)).mono ?_
  rintro e w18 ⟨rfl, hr, b⟩
  have R3 := Lib.hid hr
  have HB18 := Lib.hid (stepRd HB17.out HG.out b)
  clear hr b R2 HB17
  go_wp2_with fail
  refine (one_true _ _ g [7] [] 7 0 R3.out (by simp) (by decide +kernel) (by decide +kernel) (by decide +kernel)).mono ?_
  rintro e w19 ⟨rfl, hr, b⟩
  have R4 := Lib.hid hr
  have HB19 := Lib.hid (stepRd HB18.out HG.out b)
  clear hr b R3 HB18
  go_wp2_with fail
  refine (one_true _ _ g [] [] 0 4 R4.out (by simp) (by decide +kernel) (by decide +kernel) (by decide +kernel)).mono ?_
  rintro e w20 ⟨rfl, hr, b⟩
  have R5 := Lib.hid hr
  have HB20 := Lib.hid (stepRd HB19.out HG.out b)
  clear hr b R4 HB19
  go_wp2_with fail
  refine (left_any _ _ g [] R5.out).mono ?_
  rintro e w' ⟨rfl, rfl⟩
  go_wp2_with fail
  go_ret
  exact ⟨rfl, HB20.out⟩
end Go.Proofs.Ytngeocacbegjkaa.Vk
