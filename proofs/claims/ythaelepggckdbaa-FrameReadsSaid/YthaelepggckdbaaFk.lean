/- Proves that the law's check of the chapter's examples returns true. No condition. -/
import Derived.Test.YthaelepggckdbaaFh
import Derived.Lib.SlBytesConst
namespace Go.Proofs.Ythaelepggckdbaa.Fk
open Go.RowKit Vm Ap Vw Va Vr Gc Fm Fc Fw Fr Frr Fh

theorem len_of (n s : Nat) (h : n < big) (hs : (Lib.bitLen (n ||| 1) + 6) / 7 = s) : (encN n).length = s := by rw [← size_eq n h]; exact hs
theorem fsize_at (n : Nat) (s : Int) (hn : n ≤ 2097152) (hs : (((encN (n + 1)).length + n + 1 : Nat) : Int) = s) : ∀ W A k, Calls Try.prog 11 #[.agg #[.int .u8 1, .slice A n k]] W (twoPost W s 0) := fun W A k => by
  have := fsize_ok 1 A (List.replicate n 0) k W (by rw [List.length_replicate]; exact hn)
  rw [wire_len, List.length_replicate, hs] at this
  exact this
theorem fsize_over (n : Nat) (hn : 2097152 < n) : ∀ W A k, Calls Try.prog 11 #[.agg #[.int .u8 1, .slice A n k]] W (twoPost W 0 5) := fun W A k => by
  have := fsize_no 1 A (List.replicate n 0) k W (by rw [List.length_replicate]; exact hn)
  rw [List.length_replicate] at this
  exact this
theorem enc3 : encN 3 = [3] := by rw [enc_small (by omega)]; rfl
theorem enc1 : encN 1 = [1] := by rw [enc_small (by omega)]; rfl
theorem wire_ab : wire 9 [97, 98] = [3, 9, 97, 98] := by
  have e : encN (([97, 98] : Bs).length + 1) = [3] := enc3
  unfold wire; rw [e]; rfl
theorem wire_0 : wire 0 [] = [1, 0] := by
  have e : encN (([] : Bs).length + 1) = [1] := enc1
  unfold wire; rw [e]; rfl
/-- Write at given bytes. -/
theorem write_at (c : UInt8) (A : Option Addr) (p m : Bs) (n k j : Nat) (x : Int) (w : World) (hn : p.length = n) (hA : Rb w A p) (hk : A = none → k = 0) (hp : p.length ≤ 2097152) (hx : (c.toNat : Int) = x) (h : wire c p = m) (hj : m.length = j) :
    Calls Try.prog 9 #[.agg #[.int .u8 x, .slice A n k]] w fun e w' => ∃ X y, e = .returned (.tuple #[.slice X j y, .int .i64 0]) ∧ Rb w' X m ∧ Below w.heap.size w w' := by
  subst hn; subst hx; subst hj
  refine (fwrite_ok c A p k w hA hk hp).mono ?_
  rintro e w' ⟨v, rfl, h1, h2⟩
  rw [h] at h1
  obtain ⟨X, y, sh⟩ := own_shape h1
  exact ⟨X, y, by rw [sh.val], sh.rd, h2⟩
theorem write_str (w : World) : Calls Try.prog 9 #[.agg #[.int .u8 9, .slice (some ⟨w.heap.size, 0, none⟩) 2 2]] (w.alloc (.cells #[.int .u8 97, .int .u8 98] 5 (2, 3))) fun e w' => ∃ X y, e = .returned (.tuple #[.slice X 4 y, .int .i64 0]) ∧ Rb w' X [3, 9, 97, 98] ∧ Below (w.alloc (.cells #[.int .u8 97, .int .u8 98] 5 (2, 3))).heap.size (w.alloc (.cells #[.int .u8 97, .int .u8 98] 5 (2, 3))) w' :=
  write_at 9 _ [97, 98] [3, 9, 97, 98] 2 2 4 9 _ rfl (Rb.marked w [97, 98] (2, 3)) (fun e => by cases e) (by simp) rfl wire_ab rfl
theorem size_str (w : World) : Calls Try.prog 11 #[.agg #[.int .u8 9, .slice (some ⟨w.heap.size, 0, none⟩) 2 2]] (w.alloc (.cells #[.int .u8 97, .int .u8 98] 5 (2, 3))) (twoPost (w.alloc (.cells #[.int .u8 97, .int .u8 98] 5 (2, 3))) 4 0) := by
  have := fsize_ok 9 (some ⟨w.heap.size, 0, none⟩) [97, 98] 2 (w.alloc (.cells #[.int .u8 97, .int .u8 98] 5 (2, 3))) (by simp)
  rw [wire_ab] at this; exact this
theorem lit_reads (w : World) (l : Bs) (cs : Array Value) (k : Nat) (most s e : Int) (ns ne : Nat) (hcs : (l.map byteV).toArray = cs) (hk : l.length = k) (hl : l.length ≤ 1000000000) (hm1 : -9223372036854775808 ≤ most) (hm2 : most ≤ 9223372036854775807) (h : readV l most = (0, [], ns, ne)) (hs : (ns : Int) = s) (he : (ne : Int) = e) :
    Calls Try.prog 15 #[.slice (some ⟨w.heap.size, 0, none⟩) k k, .int .i64 most, .agg #[.int .u8 0, .slice none 0 0], .int .i64 s, .int .i64 e] (w.alloc (.cells cs 5)) (boolOf true (w.alloc (.cells cs 5))) := by
  subst hcs
  exact reads_true _ none l [] k k 0 0 0 most 0 s e ns ne _ hk rfl (Rb.lit w l hl) hl (Nat.le_refl _) hm1 hm2 (Rb.nil _ _) h rfl hs he
theorem nil_reads (w : World) (most s e : Int) (ns ne : Nat) (hm1 : -9223372036854775808 ≤ most) (hm2 : most ≤ 9223372036854775807) (h : readV [] most = (0, [], ns, ne)) (hs : (ns : Int) = s) (he : (ne : Int) = e) :
    Calls Try.prog 15 #[.slice none 0 0, .int .i64 most, .agg #[.int .u8 0, .slice none 0 0], .int .i64 s, .int .i64 e] w (boolOf true w) :=
  reads_true none none [] [] 0 0 0 0 0 most 0 s e ns ne w rfl rfl (Rb.nil _ _) (by simp) (Nat.le_refl _) hm1 hm2 (Rb.nil _ _) h rfl hs he
theorem reads_ab (w : World) (a b : Nat) (ha : w.heap.size = a) (hb : w.heap.size + 1 = b) : Calls Try.prog 15 #[.slice (some ⟨a, 0, none⟩) 5 5, .int .i64 2, .agg #[.int .u8 9, .slice (some ⟨b, 0, none⟩) 2 2], .int .i64 4, .int .i64 0]
    ((w.alloc (.cells #[.int .u8 3, .int .u8 9, .int .u8 97, .int .u8 98, .int .u8 7] 5)).alloc (.cells #[.int .u8 97, .int .u8 98] 5 (2, 3)))
    (boolOf true ((w.alloc (.cells #[.int .u8 3, .int .u8 9, .int .u8 97, .int .u8 98, .int .u8 7] 5)).alloc (.cells #[.int .u8 97, .int .u8 98] 5 (2, 3)))) := by
  subst ha; subst hb
  have h1 : Rb (w.alloc (.cells #[.int .u8 3, .int .u8 9, .int .u8 97, .int .u8 98, .int .u8 7] 5)) (some ⟨w.heap.size, 0, none⟩) [3, 9, 97, 98, 7] := Rb.lit w [3, 9, 97, 98, 7] (by simp)
  have h2 := h1.below (alloc_below _ (.cells #[.int .u8 97, .int .u8 98] 5 (2, 3))) (Nat.le_refl _)
  have hs : (w.alloc (.cells #[.int .u8 3, .int .u8 9, .int .u8 97, .int .u8 98, .int .u8 7] 5)).heap.size = w.heap.size + 1 := by simp
  have h3 : Rb ((w.alloc (.cells #[.int .u8 3, .int .u8 9, .int .u8 97, .int .u8 98, .int .u8 7] 5)).alloc (.cells #[.int .u8 97, .int .u8 98] 5 (2, 3))) (some ⟨(w.alloc (.cells #[.int .u8 3, .int .u8 9, .int .u8 97, .int .u8 98, .int .u8 7] 5)).heap.size, 0, none⟩) [97, 98] := Rb.marked _ [97, 98] (2, 3)
  rw [hs] at h3
  generalize (w.alloc (.cells #[.int .u8 3, .int .u8 9, .int .u8 97, .int .u8 98, .int .u8 7] 5)).alloc (.cells #[.int .u8 97, .int .u8 98] 5 (2, 3)) = W at *
  exact reads_true (some ⟨w.heap.size, 0, none⟩) (some ⟨w.heap.size + 1, 0, none⟩) [3, 9, 97, 98, 7] [97, 98] 5 5 2 2 9 2 9 4 0 4 0 W rfl rfl h2 (by simp) (by omega) (by omega) (by omega) h3 (by decide +kernel) rfl rfl rfl

set_option maxRecDepth 100000 in
set_option maxHeartbeats 8000000 in
theorem known_any (w : World) : Calls Try.prog 8 #[] w (boolOf true w) := by
  have HB0 : Hid (Below w.heap.size w w) := Below.refl _ _
  obtain ⟨w0, hw0⟩ : ∃ w0, w0 = w := ⟨_, rfl⟩
  have HW := Lib.hid hw0
  go_enter Try.func8, Try.ntmps8
  clear hw0
  have kc := fun (w : World) (C : Array Value) (n c : Nat) => Lib.run_convert_bytes_const (P := Try.prog) w 22 5 C n c Try.underlying22 Try.underlying5
  have kc2 : ∀ (w : World) (o p : Obj) (C : Array Value) (n c : Nat), (convert 22 22 (.slice (some ⟨w.heap.size + 1 + 1, 0, none⟩) n c)).run Try.prog (((w.alloc o).alloc p).alloc (.cells C 5)) = .ok (.slice (some ⟨w.heap.size + 1 + 1, 0, none⟩) n c) (((w.alloc o).alloc p).alloc (.cells C 5 (C.size, C.size + 1))) := fun w o p C n c => by
    have := kc ((w.alloc o).alloc p) C n c
    simpa using this
  go_wp2_with fail
  refine (write_str _).mono ?_
  rintro e w1 ⟨X, y, rfl, hr, b⟩
  have R1 := Lib.hid hr
  have HB1 := Lib.hid (step1 HB0.out b); clear hr b HB0
  go_wp2_with fail
  refine (size_str _).mono ?_
  rintro e w2 ⟨rfl, b⟩
  have R2 := Lib.hid (R1.out.below ((alloc_below _ _).trans (b.mono (alloc_below _ _).size)) (Nat.le_refl _))
  have HB2 := Lib.hid (step1 HB1.out b); clear b HB1 R1
  go_wp2_with fail
  refine (write_at 0 none [] [1, 0] 0 0 2 0 _ rfl (Rb.nil _ _) (fun _ => rfl) (by simp) rfl wire_0 rfl).mono ?_
  rintro e w3 ⟨Z, z, rfl, hr, b⟩
  have hcv := conv_str y (R2.out.below b (Nat.le_refl _))
  have hcz := conv_str z hr
  have HB3 := Lib.hid (step0 HB2.out b); clear hr b HB2
  simp only [List.length_cons, List.length_nil, Nat.reduceAdd] at hcv hcz
  go_wp2_with fail
  refine (reads_ab (w3.alloc (.cells #[.int .u8 0, .slice none 0 0] 24)) _ _ (by simp) (by simp)).mono ?_
  rintro e w4 ⟨rfl, b⟩
  have CE4 := Lib.hid ((Cel.new w3 (.int .u8 0) (.slice none 0 0) 24).below ((alloc_below _ _).trans (((alloc_below _ _).trans (b.mono (alloc_below _ _).size)).mono (alloc_below _ _).size)) (Nat.le_refl _))
  have HB4 := Lib.hid (step0 ((HB3.out.alloc HB3.out.size _).trans (((alloc_below _ _).trans ((alloc_below _ _).mono (alloc_below _ _).size)).mono (HB3.out.alloc HB3.out.size _).size)) b)
  clear b HB3 hcv hcz R2 kc kc2
  generalize w3.heap.size = g at *
  obtain ⟨cx0, cx1, _, _⟩ := CE4.out
  have hl := CE4.out.lt
  go_wp2_with fail
  refine (lit_reads _ [3, 9, 97] _ 3 2 0 4 0 4 rfl rfl (by simp) (by omega) (by omega) (by decide +kernel) rfl rfl).mono ?_
  rintro e w5 ⟨rfl, b⟩
  have CE5 := Lib.hid (CE4.out.below ((alloc_below _ _).trans (b.mono (alloc_below _ _).size)) (Nat.le_refl _))
  have HB5 := Lib.hid (step1 HB4.out b)
  clear b HB4 CE4 cx0 cx1 hl
  obtain ⟨cx0, cx1, _, _⟩ := CE5.out
  have hl := CE5.out.lt
  go_wp2_with fail
  refine (nil_reads _ 2 0 4 0 4 (by omega) (by omega) (by decide +kernel) rfl rfl).mono ?_
  rintro e w6 ⟨rfl, b⟩
  have CE6 := Lib.hid (CE5.out.below b (Nat.le_refl _))
  have HB6 := Lib.hid (step0 HB5.out b)
  clear b HB5 CE5 cx0 cx1 hl
  obtain ⟨cx0, cx1, _, _⟩ := CE6.out
  have hl := CE6.out.lt
  go_wp2_with fail
  refine (lit_reads _ [1, 0] _ 2 0 2 0 2 0 rfl rfl (by simp) (by omega) (by omega) (by decide +kernel) rfl rfl).mono ?_
  rintro e w7 ⟨rfl, b⟩
  have CE7 := Lib.hid (CE6.out.below ((alloc_below _ _).trans (b.mono (alloc_below _ _).size)) (Nat.le_refl _))
  have HB7 := Lib.hid (step1 HB6.out b)
  clear b HB6 CE6 cx0 cx1 hl
  obtain ⟨cx0, cx1, _, _⟩ := CE7.out
  have hl := CE7.out.lt
  go_wp2_with fail
  refine (lit_reads _ [3, 9, 97, 98] _ 4 1 0 5 0 5 rfl rfl (by simp) (by omega) (by omega) (by decide +kernel) rfl rfl).mono ?_
  rintro e w8 ⟨rfl, b⟩
  have CE8 := Lib.hid (CE7.out.below ((alloc_below _ _).trans (b.mono (alloc_below _ _).size)) (Nat.le_refl _))
  have HB8 := Lib.hid (step1 HB7.out b)
  clear b HB7 CE7 cx0 cx1 hl
  obtain ⟨cx0, cx1, _, _⟩ := CE8.out
  have hl := CE8.out.lt
  go_wp2_with fail
  refine (lit_reads _ [3] _ 1 1 0 5 0 5 rfl rfl (by simp) (by omega) (by omega) (by decide +kernel) rfl rfl).mono ?_
  rintro e w9 ⟨rfl, b⟩
  have CE9 := Lib.hid (CE8.out.below ((alloc_below _ _).trans (b.mono (alloc_below _ _).size)) (Nat.le_refl _))
  have HB9 := Lib.hid (step1 HB8.out b)
  clear b HB8 CE8 cx0 cx1 hl
  obtain ⟨cx0, cx1, _, _⟩ := CE9.out
  have hl := CE9.out.lt
  go_wp2_with fail
  refine (lit_reads _ [0, 5] _ 2 2 0 6 0 6 rfl rfl (by simp) (by omega) (by omega) (by decide +kernel) rfl rfl).mono ?_
  rintro e w10 ⟨rfl, b⟩
  have CE10 := Lib.hid (CE9.out.below ((alloc_below _ _).trans (b.mono (alloc_below _ _).size)) (Nat.le_refl _))
  have HB10 := Lib.hid (step1 HB9.out b)
  clear b HB9 CE9 cx0 cx1 hl
  obtain ⟨cx0, cx1, _, _⟩ := CE10.out
  have hl := CE10.out.lt
  go_wp2_with fail
  refine (lit_reads _ [128, 0] _ 2 2 0 5 0 5 rfl rfl (by simp) (by omega) (by omega) (by decide +kernel) rfl rfl).mono ?_
  rintro e w11 ⟨rfl, b⟩
  have CE11 := Lib.hid (CE10.out.below ((alloc_below _ _).trans (b.mono (alloc_below _ _).size)) (Nat.le_refl _))
  have HB11 := Lib.hid (step1 HB10.out b)
  clear b HB10 CE10 cx0 cx1 hl
  obtain ⟨cx0, cx1, _, _⟩ := CE11.out
  have hl := CE11.out.lt
  go_wp2_with fail
  refine (lit_reads _ [128] _ 1 2 0 4 0 4 rfl rfl (by simp) (by omega) (by omega) (by decide +kernel) rfl rfl).mono ?_
  rintro e w12 ⟨rfl, b⟩
  have CE12 := Lib.hid (CE11.out.below ((alloc_below _ _).trans (b.mono (alloc_below _ _).size)) (Nat.le_refl _))
  have HB12 := Lib.hid (step1 HB11.out b)
  clear b HB11 CE11 cx0 cx1 hl
  obtain ⟨cx0, cx1, _, _⟩ := CE12.out
  have hl := CE12.out.lt
  go_wp2_with fail
  refine (lit_reads _ [3, 9, 97, 98] _ 4 (-1) 0 2 0 2 rfl rfl (by simp) (by omega) (by omega) (by decide +kernel) rfl rfl).mono ?_
  rintro e w13 ⟨rfl, b⟩
  have CE13 := Lib.hid (CE12.out.below ((alloc_below _ _).trans (b.mono (alloc_below _ _).size)) (Nat.le_refl _))
  have HB13 := Lib.hid (step1 HB12.out b)
  clear b HB12 CE12 cx0 cx1 hl
  obtain ⟨cx0, cx1, _, _⟩ := CE13.out
  have hl := CE13.out.lt
  go_wp2_with fail
  refine (sizes_true 127 127 130 0 _ rfl (by omega) (fsize_at 127 130 (by omega) (by rw [len_of 128 2 (by unfold big; omega) (by decide +kernel)]; rfl))).mono ?_
  rintro e w14 ⟨rfl, b⟩
  have HB14 := Lib.hid (step0 HB13.out b)
  clear b HB13
  go_wp2_with fail
  refine (sizes_true 2097152 2097152 2097157 0 _ rfl (by omega) (fsize_at 2097152 2097157 (by omega) (by rw [len_of 2097153 4 (by unfold big; omega) (by decide +kernel)]; rfl))).mono ?_
  rintro e w15 ⟨rfl, b⟩
  have HB15 := Lib.hid (step0 HB14.out b)
  clear b HB14
  go_wp2_with fail
  refine (sizes_true 2097153 2097153 0 5 _ rfl (by omega) (fsize_over 2097153 (by omega))).mono ?_
  rintro e w16 ⟨rfl, b⟩
  have HB16 := Lib.hid (step0 HB15.out b)
  clear b HB15
  go_wp2_with fail
  go_ret
  exact ⟨rfl, HB16.out⟩
end Go.Proofs.Ythaelepggckdbaa.Fk
