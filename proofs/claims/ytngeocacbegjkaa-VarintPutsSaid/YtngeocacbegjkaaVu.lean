/- Proves that VarintPuts returns true at every argument. Conditions: as the row gives them. -/
import Derived.Test.YtngeocacbegjkaaVq
import Derived.Deep.RegionHeld3
namespace Go.Proofs.Ytngeocacbegjkaa.Vu
open Go.RowKit Vm Ap Vw Va Vab Vr Vrb Vg Vgr Vc Vp Vpr Vn Vs Vh Vk Vl Vq

/-- What the comparisons of a law read, in the world at hand: the bytes of four slices, one of them the call's own row. -/
structure Pk (W : World) (B : Nat) (A X Y O C : Option Addr) (y : Nat) (l x ys p : Bs) (w : World) : Prop where
  base : Below W.heap.size W w
  b : Rb w A l
  x : Rb w X x
  y : Own B w (.slice Y ys.length y) ys
  o : Rb w O l
  c : Rb w C p
theorem Pk.below {W : World} {B : Nat} {A X Y O C : Option Addr} {y : Nat} {l x ys p : Bs} {w w' : World} (h : Pk W B A X Y O C y l x ys p w) (hb : Below w.heap.size w w') : Pk W B A X Y O C y l x ys p w' :=
  ⟨step0 h.base hb, h.b.below hb (Nat.le_refl _), h.x.below hb (Nat.le_refl _), own_below h.y hb (Nat.le_refl _), h.o.below hb (Nat.le_refl _), h.c.below hb (Nat.le_refl _)⟩
theorem Pk.drew {W : World} {B : Nat} {A X Y O C : Option Addr} {y : Nat} {l x ys p : Bs} {w : World} (h : Pk W B A X Y O C y l x ys p w) : Pk W B A X Y O C y l x ys p w.drew := h.below ((Below.refl _ _).drew)
/-- The same behind the loop. -/
structure Pq (W : World) (A X O : Option Addr) (l x : Bs) (w : World) : Prop where
  base : Below W.heap.size W w
  b : Rb w A l
  x : Rb w X x
  o : Rb w O l
theorem Pq.below {W : World} {A X O : Option Addr} {l x : Bs} {w w' : World} (h : Pq W A X O l x w) (hb : Below w.heap.size w w') : Pq W A X O l x w' :=
  ⟨step0 h.base hb, h.b.below hb (Nat.le_refl _), h.x.below hb (Nat.le_refl _), h.o.below hb (Nat.le_refl _)⟩
theorem Pq.drew {W : World} {A X O : Option Addr} {l x : Bs} {w : World} (h : Pq W A X O l x w) : Pq W A X O l x w.drew := h.below ((Below.refl _ _).drew)
def rputPost (w : World) (l : Bs) : Ending → World → Prop := fun e w' => ∃ C d, e = .returned (.slice C l.length d) ∧ (convert 22 9 (.slice C l.length d)).run Try.prog w' = .ok (.string ⟨l.toArray⟩) w' ∧ Below w.heap.size w w'
theorem rput_conv (n : Nat) (w : World) (hn : n < big) : Calls Try.prog 13 #[.int .u64 (n : Int)] w (rputPost w (encN n)) := by
  refine (rput_any n w hn).mono ?_
  rintro e w' ⟨v, rfl, h1, h2⟩
  obtain ⟨C, d, sh⟩ := own_shape h1
  exact ⟨C, d, by rw [sh.val], conv_str d sh.rd, h2⟩
theorem rputB_conv (C : Option Addr) (p : Bs) (d : Nat) (w : World) (hC : Rb w C p) (hd : C = none → d = 0) (hp : p.length ≤ 100000000) : Calls Try.prog 14 #[.slice C p.length d] w (rputPost w (encN p.length ++ p)) := by
  refine (rputB_any C p d w hC hd hp).mono ?_
  rintro e w' ⟨v, rfl, h1, h2⟩
  obtain ⟨D, f, sh⟩ := own_shape h1
  exact ⟨D, f, by rw [sh.val], conv_str f sh.rd, h2⟩

theorem size_hid (n : Nat) (hn : n < big) (k : Int) (h : ((encN n).length : Int) = k) : Hid (∀ w, Calls Try.prog 12 #[.int .u64 (n : Int)] w fun e w' => e = .returned (.int .i64 k) ∧ w = w') := by
  subst h
  exact fun w => size_any n w hn

theorem cat_toList (l m : Bs) : ((⟨l.toArray⟩ : ByteArray) ++ ⟨m.toArray⟩).toList = l ++ m := by
  rw [Lib.toList_data]; simp

set_option maxRecDepth 100000 in
set_option maxHeartbeats 8000000 in
theorem puts_main (A C : Option Addr) (l p : Bs) (c d n : Nat) (W : World) (ha : Arg W A l c) (hb : Arg W C p d) (hn : n < big) (hl : l.length ≤ 300) (hp : p.length ≤ 300) :
    Calls Try.prog 3 #[.slice A l.length c, .int .u64 (n : Int), .slice C p.length d] W (boolBelow W) := by
  have HK := known_hid
  have HA := Lib.hid ha.rd
  have HN := Lib.hid ha.non
  have HC := Lib.hid hb.rd
  have HD := Lib.hid hb.non
  have h1 : (l.length : Int) ≤ 300 := by omega
  have h2 : (p.length : Int) ≤ 300 := by omega
  have hle := enc_le n hn
  have hlp := enc_le p.length (by unfold big; omega)
  clear ha hb
  obtain ⟨en, hen⟩ : ∃ en, en = encN n := ⟨_, rfl⟩
  obtain ⟨xs, hxs⟩ : ∃ xs, xs = l ++ en := ⟨_, rfl⟩
  obtain ⟨ep, hep⟩ : ∃ ep, ep = encN p.length ++ p := ⟨_, rfl⟩
  obtain ⟨ys, hys⟩ : ∃ ys, ys = l ++ ep := ⟨_, rfl⟩
  have hypos : 0 < ys.length := by rw [hys, hep, List.length_append, List.length_append]; have := enc_pos p.length; omega
  have hel : en.length ≤ 10 := by rw [hen]; exact hle
  have hepl : ep.length ≤ 310 := by rw [hep, List.length_append]; omega
  have hxl : xs.length ≤ 310 := by rw [hxs, List.length_append]; omega
  have hyl : ys.length ≤ 610 := by rw [hys, List.length_append]; omega
  have HPUT0 : Hid (∀ O o w, Rb w O l → (O = none → o = 0) → Calls Try.prog 10 #[.slice O l.length o, .int .u64 (n : Int)] w (bytesPost w xs)) := fun O o w r h => by
    rw [hxs, hen]; exact put_any O l o n w r h (by omega) hn
  have HPB0 : Hid (∀ O o w, Rb w O l → (O = none → o = 0) → Rb w C p → Calls Try.prog 11 #[.slice O l.length o, .slice C p.length d] w (bytesPost w ys)) := fun O o w r h r2 => by
    rw [hys, hep]; exact putB_any O C l p o d w r h (by omega) r2 HD.out (by omega)
  have HRP : Hid (∀ w, Calls Try.prog 13 #[.int .u64 (n : Int)] w (rputPost w en)) := fun w => by rw [hen]; exact rput_conv n w hn
  have HRB : Hid (∀ w, Rb w C p → Calls Try.prog 14 #[.slice C p.length d] w (rputPost w ep)) := fun w r => by rw [hep]; exact rputB_conv C p d w r HD.out (by omega)
  have HSZ := size_hid n hn (en.length : Int) (by rw [hen])
  have HXS := Lib.hid hxs; have HYS := Lib.hid hys
  have hex : (xs == ((⟨l.toArray⟩ : ByteArray) ++ ⟨en.toArray⟩).toList) = true := by rw [hxs, cat_toList]; simp
  have hey : (ys == ((⟨l.toArray⟩ : ByteArray) ++ ⟨ep.toArray⟩).toList) = true := by rw [hys, cat_toList]; simp
  clear hen hxs hep hys hle hlp
  obtain ⟨v1, w1, hmk0, hown, hg⟩ := make_own 700 W (by omega)
  have hmk : (Instr.makeSlice 22 (.int .i64 0) (.int .i64 700)).run Try.prog W = .ok v1 w1 := hmk0
  have hb1 := below_of_grown hg (Nat.le_refl W.heap.size) (by intro k e; cases e)
  have HO1 := Lib.hid hown
  have HB1 := Lib.hid hb1
  have HA1 := Lib.hid (HA.out.below hb1 (Nat.le_refl _))
  have hz1 := hb1.size
  unfold big at hn
  clear hmk0 hg hown hb1
  have hq1 : ¬ 9223372036854775807 < l.length + en.length := by omega
  have hq2 : ¬ 9223372036854775807 < l.length + ep.length := by omega
  go_enter Try.func3, Try.ntmps3
  go_wp2_with (at_builtin; (refine wpList_from rfl _ _ rfl rfl HO1.out l A c rfl HN.out HA1.out (by simp) (by omega) hz1 ?_))
  intro v2 w2 h2' g2
  clear hmk
  have hb2 := HB1.out.grown g2 hz1 (fun j e => (World.ownsRow.lt HO1.out j e).1)
  obtain ⟨O, o, shO⟩ := own_shape h2'
  obtain rfl := shO.val
  have SO := Lib.hid shO
  have HB2 := Lib.hid hb2
  have hz2 := hb2.size
  have HA2 := Lib.hid (HA.out.below hb2 (Nat.le_refl _))
  have HC2 := Lib.hid (HC.out.below hb2 (Nat.le_refl _))
  clear h2' g2 hb2 shO HO1
  go_wp2_with fail
  refine (HPUT0.out O o w2 SO.out.rd SO.out.non).mono ?_
  rintro e w3 ⟨v3, rfl, h3, hb3⟩
  obtain ⟨X, x, shX⟩ := own_shape h3
  obtain rfl := shX.val
  have SX := Lib.hid shX
  have HB3 := Lib.hid (step0 HB2.out hb3)
  have HA3 := Lib.hid (HA2.out.below hb3 (Nat.le_refl _))
  have HC3 := Lib.hid (HC2.out.below hb3 (Nat.le_refl _))
  have RO3 := Lib.hid (SO.out.rd.below hb3 (Nat.le_refl _))
  have hz3 := hb3.size
  clear h3 hb3 shX
  go_wp2_with fail
  refine (HPB0.out O o w3 RO3.out SO.out.non HC3.out).mono ?_
  rintro e w4 ⟨v4, rfl, h4, hb4⟩
  obtain ⟨Y, y, shY⟩ := own_shape h4
  obtain rfl := shY.val
  have HY4 := Lib.hid h4
  have PK4 : Pk W w3.heap.size A X Y O C y l xs ys p w4 :=
    ⟨step0 HB3.out hb4, HA3.out.below hb4 (Nat.le_refl _), SX.out.rd.below hb4 (Nat.le_refl _), HY4.out, RO3.out.below hb4 (Nat.le_refl _), HC3.out.below hb4 (Nat.le_refl _)⟩
  have hz4 := HB3.out.size
  clear h4 hb4 shY
  have cA : ∀ w', Pk W w3.heap.size A X Y O C y l xs ys p w' → (convert 22 9 (.slice A l.length c)).run Try.prog w' = .ok (.string ⟨l.toArray⟩) w' := fun w' h => conv_str c h.b
  have cO : ∀ w', Pk W w3.heap.size A X Y O C y l xs ys p w' → (convert 22 9 (.slice O l.length o)).run Try.prog w' = .ok (.string ⟨l.toArray⟩) w' := fun w' h => conv_str o h.o
  have cX : ∀ w', Pk W w3.heap.size A X Y O C y l xs ys p w' → (convert 22 9 (.slice X xs.length x)).run Try.prog w' = .ok (.string ⟨xs.toArray⟩) w' := fun w' h => conv_str x h.x
  have cY : ∀ w', Pk W w3.heap.size A X Y O C y l xs ys p w' → (convert 22 9 (.slice Y ys.length y)).run Try.prog w' = .ok (.string ⟨ys.toArray⟩) w' := fun w' h => conv_str y (Rb.of_own h.y)
  go_wp2_with fail
  refine wp_region_noPanic ?_
  refine wp_region_held_drew (S := fun w' => Pk W w3.heap.size A X Y O C y l xs ys p w') (by kernel_rfl) (Pk.drew PK4) (fun hHeld => ?_)
  refine wpAnyH_take (i := 0) (oi := ⟨some 29, _, _, _, _, _⟩) (v := ?_) rfl (by kernel_rfl) (by kernel_rfl) (by kernel_rfl) (fun _ _ _ h => h) (Or.inl ⟨by rfl, ?_⟩) (by assumption) ?_
  rotate_left
  · intro w hSw; go_simp; first | done | with_reducible rfl
  try simp only [Act.put, List.setIfInBounds_toArray, List.set_cons_zero, List.set_cons_succ]
  refine wpAnyH_take (i := 2) (oi := ⟨some 31, _, _, _, _, _⟩) (v := ?_) rfl (by kernel_rfl) (by kernel_rfl) (by kernel_rfl) (fun _ _ _ h => h) (Or.inl ⟨by rfl, ?_⟩) (by assumption) ?_
  rotate_left
  · intro w hSw; go_simp; first | done | with_reducible rfl
  try simp only [Act.put, List.setIfInBounds_toArray, List.set_cons_zero, List.set_cons_succ]
  refine wpAnyH_ready (rs := [1]) (by kernel_rfl) (by simp) ?_
  refine AllReadyH.cons (o := ⟨some 30, _, _, _, _, _⟩) rfl (fun K hK => ?_) AllReadyH.nil
  go_simp
  refine (HSZ.out _).mono ?_
  rintro e w' ⟨rfl, rfl⟩
  go_simp
  refine hK.out _ _ hHeld (fun hHeld => ?_)
  clear hK K
  try simp only [Act.put, List.setIfInBounds_toArray, List.set_cons_zero, List.set_cons_succ]
  refine wpAnyH_ready (rs := [3]) (by kernel_rfl) (by simp) ?_
  refine AllReadyH.cons (o := ⟨some 32, _, _, _, _, _⟩) rfl (fun K hK => ?_) AllReadyH.nil
  go_simp
  refine (HRP.out _).mono ?_
  rintro e w' ⟨D, f, rfl, hcv, hbw⟩
  go_simp
  refine hK.out _ _ (Pk.below hHeld hbw) (fun hHeld => ?_)
  clear hK K
  try simp only [Act.put, List.setIfInBounds_toArray, List.set_cons_zero, List.set_cons_succ]
  refine wpAnyH_take (i := 4) (oi := ⟨some 33, _, _, _, _, _⟩) (v := ?_) rfl (by kernel_rfl) (by kernel_rfl) (by kernel_rfl) (fun _ _ _ h => h) (Or.inl ⟨by rfl, ?_⟩) (by assumption) ?_
  rotate_left
  · intro w hSw; go_simp; first | done | with_reducible rfl
  try simp only [Act.put, List.setIfInBounds_toArray, List.set_cons_zero, List.set_cons_succ]
  refine wpAnyH_take (i := 5) (oi := ⟨some 34, _, _, _, _, _⟩) (v := ?_) rfl (by kernel_rfl) (by kernel_rfl) (by kernel_rfl) (fun _ _ _ h => h) (Or.inl ⟨by rfl, ?_⟩) (by assumption) ?_
  rotate_left
  · intro w hSw; go_simp; first | done | with_reducible rfl
  try simp only [Act.put, List.setIfInBounds_toArray, List.set_cons_zero, List.set_cons_succ]
  refine wpAnyH_take (i := 6) (oi := ⟨some 35, _, _, _, _, _⟩) (v := ?_) rfl (by kernel_rfl) (by kernel_rfl) (by kernel_rfl) (fun _ _ _ h => h) (Or.inl ⟨by rfl, ?_⟩) (by assumption) ?_
  rotate_left
  · intro w hSw; go_simp; first | done | with_reducible rfl
  try simp only [Act.put, List.setIfInBounds_toArray, List.set_cons_zero, List.set_cons_succ]
  refine wpAnyH_take (i := 7) (oi := ⟨some 36, _, _, _, _, _⟩) (v := ?_) rfl (by kernel_rfl) (by kernel_rfl) (by kernel_rfl) (fun _ _ _ h => h) (Or.inl ⟨by rfl, ?_⟩) (by assumption) ?_
  rotate_left
  · intro w hSw; go_simp; first | done | with_reducible rfl
  try simp only [Act.put, List.setIfInBounds_toArray, List.set_cons_zero, List.set_cons_succ]
  refine wpAnyH_take (i := 8) (oi := ⟨some 37, _, _, _, _, _⟩) (v := ?_) rfl (by kernel_rfl) (by kernel_rfl) (by kernel_rfl) (fun _ _ _ h => h) (Or.inl ⟨by rfl, ?_⟩) (by assumption) ?_
  rotate_left
  · intro w hSw; go_simp; first | done | with_reducible rfl
  try simp only [Act.put, List.setIfInBounds_toArray, List.set_cons_zero, List.set_cons_succ]
  refine wpAnyH_take (i := 9) (oi := ⟨some 38, _, _, _, _, _⟩) (v := ?_) rfl (by kernel_rfl) (by kernel_rfl) (by kernel_rfl) (fun _ _ _ h => h) (Or.inl ⟨by rfl, ?_⟩) (by assumption) ?_
  rotate_left
  · intro w hSw; go_simp; first | done | with_reducible rfl
  try simp only [Act.put, List.setIfInBounds_toArray, List.set_cons_zero, List.set_cons_succ]
  refine wpAnyH_take (i := 10) (oi := ⟨some 39, _, _, _, _, _⟩) (v := ?_) rfl (by kernel_rfl) (by kernel_rfl) (by kernel_rfl) (fun _ _ _ h => h) (Or.inl ⟨by rfl, ?_⟩) (by assumption) ?_
  rotate_left
  · intro w hSw; go_simp; first | done | with_reducible rfl
  try simp only [Act.put, List.setIfInBounds_toArray, List.set_cons_zero, List.set_cons_succ]
  refine wpAnyH_take (i := 11) (oi := ⟨some 40, _, _, _, _, _⟩) (v := ?_) rfl (by kernel_rfl) (by kernel_rfl) (by kernel_rfl) (fun _ _ _ h => h) (Or.inl ⟨by rfl, ?_⟩) (by assumption) ?_
  rotate_left
  · intro w hSw; go_simp; first | done | with_reducible rfl
  try simp only [Act.put, List.setIfInBounds_toArray, List.set_cons_zero, List.set_cons_succ]
  refine wpAnyH_ready (rs := [12]) (by kernel_rfl) (by simp) ?_
  refine AllReadyH.cons (o := ⟨some 41, _, _, _, _, _⟩) rfl (fun K hK => ?_) AllReadyH.nil
  go_simp
  refine (HRP.out _).mono ?_
  rintro e w' ⟨D, f, rfl, hcv, hbw⟩
  go_simp
  refine hK.out _ _ (Pk.below hHeld hbw) (fun hHeld => ?_)
  clear hK K
  try simp only [Act.put, List.setIfInBounds_toArray, List.set_cons_zero, List.set_cons_succ]
  refine wpAnyH_ready (rs := [13]) (by kernel_rfl) (by simp) ?_
  refine AllReadyH.cons (o := ⟨some 42, _, _, _, _, _⟩) rfl (fun K hK => ?_) AllReadyH.nil
  go_simp
  refine hK.out _ _ (by assumption) (fun hHeld => ?_)
  clear hK K
  try simp only [Act.put, List.setIfInBounds_toArray, List.set_cons_zero, List.set_cons_succ]
  refine wpAnyH_take (i := 14) (oi := ⟨some 43, _, _, _, _, _⟩) (v := ?_) rfl (by kernel_rfl) (by kernel_rfl) (by kernel_rfl) (fun _ _ _ h => h) (Or.inl ⟨by rfl, ?_⟩) (by assumption) ?_
  rotate_left
  · intro w hSw; go_simp; first | done | with_reducible rfl
  try simp only [Act.put, List.setIfInBounds_toArray, List.set_cons_zero, List.set_cons_succ]
  refine wpAnyH_take (i := 15) (oi := ⟨some 44, _, _, _, _, _⟩) (v := ?_) rfl (by kernel_rfl) (by kernel_rfl) (by kernel_rfl) (fun _ _ _ h => h) (Or.inl ⟨by rfl, ?_⟩) (by assumption) ?_
  rotate_left
  · intro w hSw; go_simp; first | done | with_reducible rfl
  try simp only [Act.put, List.setIfInBounds_toArray, List.set_cons_zero, List.set_cons_succ]
  refine wpAnyH_take (i := 16) (oi := ⟨some 45, _, _, _, _, _⟩) (v := ?_) rfl (by kernel_rfl) (by kernel_rfl) (by kernel_rfl) (fun _ _ _ h => h) (Or.inl ⟨by rfl, ?_⟩) (by assumption) ?_
  rotate_left
  · intro w hSw; go_simp; first | done | with_reducible rfl
  try simp only [Act.put, List.setIfInBounds_toArray, List.set_cons_zero, List.set_cons_succ]
  refine wpAnyH_take (i := 17) (oi := ⟨some 46, _, _, _, _, _⟩) (v := ?_) rfl (by kernel_rfl) (by kernel_rfl) (by kernel_rfl) (fun _ _ _ h => h) (Or.inl ⟨by rfl, ?_⟩) (by assumption) ?_
  rotate_left
  · intro w hSw; go_simp; first | done | with_reducible rfl
  try simp only [Act.put, List.setIfInBounds_toArray, List.set_cons_zero, List.set_cons_succ]
  refine wpAnyH_take (i := 18) (oi := ⟨some 47, _, _, _, _, _⟩) (v := ?_) rfl (by kernel_rfl) (by kernel_rfl) (by kernel_rfl) (fun _ _ _ h => h) (Or.inl ⟨by rfl, ?_⟩) (by assumption) ?_
  rotate_left
  · intro w hSw; go_simp; first | done | with_reducible rfl
  try simp only [Act.put, List.setIfInBounds_toArray, List.set_cons_zero, List.set_cons_succ]
  refine wpAnyH_take (i := 19) (oi := ⟨some 48, _, _, _, _, _⟩) (v := ?_) rfl (by kernel_rfl) (by kernel_rfl) (by kernel_rfl) (fun _ _ _ h => h) (Or.inl ⟨by rfl, ?_⟩) (by assumption) ?_
  rotate_left
  · intro w hSw; go_simp; first | done | with_reducible rfl
  try simp only [Act.put, List.setIfInBounds_toArray, List.set_cons_zero, List.set_cons_succ]
  refine wpAnyH_take (i := 20) (oi := ⟨some 49, _, _, _, _, _⟩) (v := ?_) rfl (by kernel_rfl) (by kernel_rfl) (by kernel_rfl) (fun _ _ _ h => h) (Or.inl ⟨by rfl, ?_⟩) (by assumption) ?_
  rotate_left
  · intro w hSw; go_simp; first | done | with_reducible rfl
  try simp only [Act.put, List.setIfInBounds_toArray, List.set_cons_zero, List.set_cons_succ]
  refine wpAnyH_take (i := 21) (oi := ⟨some 50, _, _, _, _, _⟩) (v := ?_) rfl (by kernel_rfl) (by kernel_rfl) (by kernel_rfl) (fun _ _ _ h => h) (Or.inl ⟨by rfl, ?_⟩) (by assumption) ?_
  rotate_left
  · intro w hSw; go_simp; first | done | with_reducible rfl
  try simp only [Act.put, List.setIfInBounds_toArray, List.set_cons_zero, List.set_cons_succ]
  refine wpAnyH_take (i := 22) (oi := ⟨some 51, _, _, _, _, _⟩) (v := ?_) rfl (by kernel_rfl) (by kernel_rfl) (by kernel_rfl) (fun _ _ _ h => h) (Or.inl ⟨by rfl, ?_⟩) (by assumption) ?_
  rotate_left
  · intro w hSw; go_simp; first | done | with_reducible rfl
  try simp only [Act.put, List.setIfInBounds_toArray, List.set_cons_zero, List.set_cons_succ]
  refine wpAnyH_ready (rs := [23]) (by kernel_rfl) (by simp) ?_
  refine AllReadyH.cons (o := ⟨some 52, _, _, _, _, _⟩) rfl (fun K hK => ?_) AllReadyH.nil
  go_simp
  refine (HRB.out _ hHeld.c).mono ?_
  rintro e w' ⟨D, f, rfl, hcv, hbw⟩
  go_simp
  refine hK.out _ _ (Pk.below hHeld hbw) (fun hHeld => ?_)
  clear hK K
  try simp only [Act.put, List.setIfInBounds_toArray, List.set_cons_zero, List.set_cons_succ]
  refine wpAnyH_ready (rs := [24]) (by kernel_rfl) (by simp) ?_
  refine AllReadyH.cons (o := ⟨some 53, _, _, _, _, _⟩) rfl (fun K hK => ?_) AllReadyH.nil
  go_simp
  refine hK.out _ _ (by assumption) (fun hHeld => ?_)
  clear hK K
  try simp only [Act.put, List.setIfInBounds_toArray, List.set_cons_zero, List.set_cons_succ]
  refine wpAnyH_take (i := 25) (oi := ⟨some 54, _, _, _, _, _⟩) (v := ?_) rfl (by kernel_rfl) (by kernel_rfl) (by kernel_rfl) (fun _ _ _ h => h) (Or.inl ⟨by rfl, ?_⟩) (by assumption) ?_
  rotate_left
  · intro w hSw; go_simp; first | done | with_reducible rfl
  try simp only [Act.put, List.setIfInBounds_toArray, List.set_cons_zero, List.set_cons_succ]
  refine wpAnyH_take (i := 26) (oi := ⟨some 55, _, _, _, _, _⟩) (v := ?_) rfl (by kernel_rfl) (by kernel_rfl) (by kernel_rfl) (fun _ _ _ h => h) (Or.inl ⟨by rfl, ?_⟩) (by assumption) ?_
  rotate_left
  · intro w hSw; go_simp; first | done | with_reducible rfl
  try simp only [Act.put, List.setIfInBounds_toArray, List.set_cons_zero, List.set_cons_succ]
  refine wpAnyH_take (i := 27) (oi := ⟨some 56, _, _, _, _, _⟩) (v := ?_) rfl (by kernel_rfl) (by kernel_rfl) (by kernel_rfl) (fun _ _ _ h => h) (Or.inl ⟨by rfl, ?_⟩) (by assumption) ?_
  rotate_left
  · intro w hSw; go_simp; first | done | with_reducible rfl
  try simp only [Act.put, List.setIfInBounds_toArray, List.set_cons_zero, List.set_cons_succ]
  refine wpAnyH_take (i := 28) (oi := ⟨some 57, _, _, _, _, _⟩) (v := ?_) rfl (by kernel_rfl) (by kernel_rfl) (by kernel_rfl) (fun _ _ _ h => h) (Or.inl ⟨by rfl, ?_⟩) (by assumption) ?_
  rotate_left
  · intro w hSw; go_simp; first | done | with_reducible rfl
  try simp only [Act.put, List.setIfInBounds_toArray, List.set_cons_zero, List.set_cons_succ]
  refine wpAnyH_take (i := 29) (oi := ⟨some 58, _, _, _, _, _⟩) (v := ?_) rfl (by kernel_rfl) (by kernel_rfl) (by kernel_rfl) (fun _ _ _ h => h) (Or.inl ⟨by rfl, ?_⟩) (by assumption) ?_
  rotate_left
  · intro w hSw; go_simp; first | done | with_reducible rfl
  try simp only [Act.put, List.setIfInBounds_toArray, List.set_cons_zero, List.set_cons_succ]
  refine wpAnyH_take (i := 30) (oi := ⟨some 59, _, _, _, _, _⟩) (v := ?_) rfl (by kernel_rfl) (by kernel_rfl) (by kernel_rfl) (fun _ _ _ h => h) (Or.inl ⟨by rfl, ?_⟩) (by assumption) ?_
  rotate_left
  · intro w hSw; go_simp; first | done | with_reducible rfl
  try simp only [Act.put, List.setIfInBounds_toArray, List.set_cons_zero, List.set_cons_succ]
  refine wpAnyH_take (i := 31) (oi := ⟨some 60, _, _, _, _, _⟩) (v := ?_) rfl (by kernel_rfl) (by kernel_rfl) (by kernel_rfl) (fun _ _ _ h => h) (Or.inl ⟨by rfl, ?_⟩) (by assumption) ?_
  rotate_left
  · intro w hSw; go_simp; first | done | with_reducible rfl
  try simp only [Act.put, List.setIfInBounds_toArray, List.set_cons_zero, List.set_cons_succ]
  refine wpAnyH_take (i := 32) (oi := ⟨some 61, _, _, _, _, _⟩) (v := ?_) rfl (by kernel_rfl) (by kernel_rfl) (by kernel_rfl) (fun _ _ _ h => h) (Or.inl ⟨by rfl, ?_⟩) (by assumption) ?_
  rotate_left
  · intro w hSw; go_simp; first | done | with_reducible rfl
  try simp only [Act.put, List.setIfInBounds_toArray, List.set_cons_zero, List.set_cons_succ]
  refine wpAnyH_take (i := 33) (oi := ⟨some 62, _, _, _, _, _⟩) (v := ?_) rfl (by kernel_rfl) (by kernel_rfl) (by kernel_rfl) (fun _ _ _ h => h) (Or.inl ⟨by rfl, ?_⟩) (by assumption) ?_
  rotate_left
  · intro w hSw; go_simp; first | done | with_reducible rfl
  try simp only [Act.put, List.setIfInBounds_toArray, List.set_cons_zero, List.set_cons_succ]
  refine wpAnyH_take (i := 34) (oi := ⟨some 63, _, _, _, _, _⟩) (v := ?_) rfl (by kernel_rfl) (by kernel_rfl) (by kernel_rfl) (fun _ _ _ h => h) (Or.inl ⟨by rfl, ?_⟩) (by assumption) ?_
  rotate_left
  · intro w hSw; go_simp; first | done | with_reducible rfl
  try simp only [Act.put, List.setIfInBounds_toArray, List.set_cons_zero, List.set_cons_succ]
  refine wpAnyH_done (by kernel_rfl) ?_ _
  refine NoPanic.normal ?_
  have PK5 := Lib.hid hHeld
  clear PK4 cA cO cX cY hcv hbw hHeld
  generalize w' = w5 at *
  go_wp2_with fail
  rcases own_form PK5.out.y with ⟨_, h0⟩ | ⟨g, cap, hv, hBg, hgl, hcap⟩
  · rw [h0] at hypos; simp at hypos
  · simp only [Value.slice.injEq, true_and] at hv
    obtain ⟨rfl, rfl⟩ := hv
    have RX3 := Lib.hid SX.out.rd
    have RO2 := Lib.hid SO.out.rd
    go_loopw [66] (fun i wr => ∃ (k : Nat) (m : Bs), k ≤ ys.length ∧ i = .int .i64 (k : Int) ∧ m.length = ys.length ∧ Own w3.heap.size wr (.slice (some ⟨g, 0, none⟩) ys.length y) m ∧ w5.grownBy wr (some g)) (fun i _ => ys.length - (intOf i).toNat)
    case atStart => exact ⟨0, ys, Nat.zero_le _, rfl, rfl, PK5.out.y, World.grownBy.refl _ _⟩
    case round =>
      obtain ⟨k, m, hk, rfl, hml, hown, hgr⟩ := hrel
      have HM := Lib.hid hml
      have HO := Lib.hid hown
      have HGR := Lib.hid hgr
      by_cases hlt : k < ys.length
      · have hkm : k < m.length := by omega
        obtain ⟨hc0, hf0⟩ := own_cell hml hown hkm
        have hx := m[k].toNat_lt
        have HS := Lib.hid (own_store hml hown k ((m[k].toNat + 1) % 256) (by omega))
        have i1 : (k : Int) < ys.length := by omega
        clear hml hown hgr
        go_wp2_with fail
        go_roundw
        case rel => exact ⟨k + 1, _, by omega, by go_num, by rw [List.length_set]; exact HM.out, HS.out, grown_store HGR.out k _⟩
        case measure => simp [intOf]; omega
      · obtain rfl : k = ys.length := by omega
        have hnn : ¬ (ys.length : Int) < ys.length := by omega
        have PQ : Pq W A X O l xs wr :=
          ⟨PK5.out.base.grown hgr PK5.out.base.size (fun j e => by injection e with e; omega), Rb.far HA.out (by omega) PK5.out.b hgr, Rb.far RX3.out (by omega) PK5.out.x hgr, Rb.far RO2.out (by omega) PK5.out.o hgr⟩
        have cA : ∀ w', Pq W A X O l xs w' → (convert 22 9 (.slice A l.length c)).run Try.prog w' = .ok (.string ⟨l.toArray⟩) w' := fun w' h => conv_str c h.b
        have cO : ∀ w', Pq W A X O l xs w' → (convert 22 9 (.slice O l.length o)).run Try.prog w' = .ok (.string ⟨l.toArray⟩) w' := fun w' h => conv_str o h.o
        have cX : ∀ w', Pq W A X O l xs w' → (convert 22 9 (.slice X xs.length x)).run Try.prog w' = .ok (.string ⟨xs.toArray⟩) w' := fun w' h => conv_str x h.x
        clear hml hown hgr
        go_wp2_with fail
        refine wp_region_noPanic ?_
        refine wp_region_held_drew (S := fun w' => Pq W A X O l xs w') (by kernel_rfl) (Pq.drew PQ) (fun hHeld => ?_)
        refine wpAnyH_take (i := 0) (oi := ⟨some 76, _, _, _, _, _⟩) (v := ?_) rfl (by kernel_rfl) (by kernel_rfl) (by kernel_rfl) (fun _ _ _ h => h) (Or.inl ⟨by rfl, ?_⟩) (by assumption) ?_
        rotate_left
        · intro w hSw; go_simp; first | done | with_reducible rfl
        try simp only [Act.put, List.setIfInBounds_toArray, List.set_cons_zero, List.set_cons_succ]
        refine wpAnyH_take (i := 1) (oi := ⟨some 77, _, _, _, _, _⟩) (v := ?_) rfl (by kernel_rfl) (by kernel_rfl) (by kernel_rfl) (fun _ _ _ h => h) (Or.inl ⟨by rfl, ?_⟩) (by assumption) ?_
        rotate_left
        · intro w hSw; go_simp; first | done | with_reducible rfl
        try simp only [Act.put, List.setIfInBounds_toArray, List.set_cons_zero, List.set_cons_succ]
        refine wpAnyH_take (i := 2) (oi := ⟨some 78, _, _, _, _, _⟩) (v := ?_) rfl (by kernel_rfl) (by kernel_rfl) (by kernel_rfl) (fun _ _ _ h => h) (Or.inl ⟨by rfl, ?_⟩) (by assumption) ?_
        rotate_left
        · intro w hSw; go_simp; first | done | with_reducible rfl
        try simp only [Act.put, List.setIfInBounds_toArray, List.set_cons_zero, List.set_cons_succ]
        refine wpAnyH_take (i := 3) (oi := ⟨some 79, _, _, _, _, _⟩) (v := ?_) rfl (by kernel_rfl) (by kernel_rfl) (by kernel_rfl) (fun _ _ _ h => h) (Or.inl ⟨by rfl, ?_⟩) (by assumption) ?_
        rotate_left
        · intro w hSw; go_simp; first | done | with_reducible rfl
        try simp only [Act.put, List.setIfInBounds_toArray, List.set_cons_zero, List.set_cons_succ]
        refine wpAnyH_take (i := 4) (oi := ⟨some 80, _, _, _, _, _⟩) (v := ?_) rfl (by kernel_rfl) (by kernel_rfl) (by kernel_rfl) (fun _ _ _ h => h) (Or.inl ⟨by rfl, ?_⟩) (by assumption) ?_
        rotate_left
        · intro w hSw; go_simp; first | done | with_reducible rfl
        try simp only [Act.put, List.setIfInBounds_toArray, List.set_cons_zero, List.set_cons_succ]
        refine wpAnyH_ready (rs := [5]) (by kernel_rfl) (by simp) ?_
        refine AllReadyH.cons (o := ⟨some 81, _, _, _, _, _⟩) rfl (fun K hK => ?_) AllReadyH.nil
        go_simp
        refine (HRP.out _).mono ?_
        rintro e w' ⟨D, f, rfl, hcv, hbw⟩
        go_simp
        refine hK.out _ _ (Pq.below hHeld hbw) (fun hHeld => ?_)
        clear hK K
        try simp only [Act.put, List.setIfInBounds_toArray, List.set_cons_zero, List.set_cons_succ]
        refine wpAnyH_ready (rs := [6]) (by kernel_rfl) (by simp) ?_
        refine AllReadyH.cons (o := ⟨some 82, _, _, _, _, _⟩) rfl (fun K hK => ?_) AllReadyH.nil
        go_simp
        refine hK.out _ _ (by assumption) (fun hHeld => ?_)
        clear hK K
        try simp only [Act.put, List.setIfInBounds_toArray, List.set_cons_zero, List.set_cons_succ]
        refine wpAnyH_take (i := 7) (oi := ⟨some 83, _, _, _, _, _⟩) (v := ?_) rfl (by kernel_rfl) (by kernel_rfl) (by kernel_rfl) (fun _ _ _ h => h) (Or.inl ⟨by rfl, ?_⟩) (by assumption) ?_
        rotate_left
        · intro w hSw; go_simp; first | done | with_reducible rfl
        try simp only [Act.put, List.setIfInBounds_toArray, List.set_cons_zero, List.set_cons_succ]
        refine wpAnyH_take (i := 8) (oi := ⟨some 84, _, _, _, _, _⟩) (v := ?_) rfl (by kernel_rfl) (by kernel_rfl) (by kernel_rfl) (fun _ _ _ h => h) (Or.inl ⟨by rfl, ?_⟩) (by assumption) ?_
        rotate_left
        · intro w hSw; go_simp; first | done | with_reducible rfl
        try simp only [Act.put, List.setIfInBounds_toArray, List.set_cons_zero, List.set_cons_succ]
        refine wpAnyH_take (i := 9) (oi := ⟨some 85, _, _, _, _, _⟩) (v := ?_) rfl (by kernel_rfl) (by kernel_rfl) (by kernel_rfl) (fun _ _ _ h => h) (Or.inl ⟨by rfl, ?_⟩) (by assumption) ?_
        rotate_left
        · intro w hSw; go_simp; first | done | with_reducible rfl
        try simp only [Act.put, List.setIfInBounds_toArray, List.set_cons_zero, List.set_cons_succ]
        refine wpAnyH_take (i := 10) (oi := ⟨some 86, _, _, _, _, _⟩) (v := ?_) rfl (by kernel_rfl) (by kernel_rfl) (by kernel_rfl) (fun _ _ _ h => h) (Or.inl ⟨by rfl, ?_⟩) (by assumption) ?_
        rotate_left
        · intro w hSw; go_simp; first | done | with_reducible rfl
        try simp only [Act.put, List.setIfInBounds_toArray, List.set_cons_zero, List.set_cons_succ]
        refine wpAnyH_take (i := 11) (oi := ⟨some 87, _, _, _, _, _⟩) (v := ?_) rfl (by kernel_rfl) (by kernel_rfl) (by kernel_rfl) (fun _ _ _ h => h) (Or.inl ⟨by rfl, ?_⟩) (by assumption) ?_
        rotate_left
        · intro w hSw; go_simp; first | done | with_reducible rfl
        try simp only [Act.put, List.setIfInBounds_toArray, List.set_cons_zero, List.set_cons_succ]
        refine wpAnyH_take (i := 12) (oi := ⟨some 88, _, _, _, _, _⟩) (v := ?_) rfl (by kernel_rfl) (by kernel_rfl) (by kernel_rfl) (fun _ _ _ h => h) (Or.inl ⟨by rfl, ?_⟩) (by assumption) ?_
        rotate_left
        · intro w hSw; go_simp; first | done | with_reducible rfl
        try simp only [Act.put, List.setIfInBounds_toArray, List.set_cons_zero, List.set_cons_succ]
        refine wpAnyH_take (i := 13) (oi := ⟨some 89, _, _, _, _, _⟩) (v := ?_) rfl (by kernel_rfl) (by kernel_rfl) (by kernel_rfl) (fun _ _ _ h => h) (Or.inl ⟨by rfl, ?_⟩) (by assumption) ?_
        rotate_left
        · intro w hSw; go_simp; first | done | with_reducible rfl
        try simp only [Act.put, List.setIfInBounds_toArray, List.set_cons_zero, List.set_cons_succ]
        refine wpAnyH_take (i := 14) (oi := ⟨some 90, _, _, _, _, _⟩) (v := ?_) rfl (by kernel_rfl) (by kernel_rfl) (by kernel_rfl) (fun _ _ _ h => h) (Or.inl ⟨by rfl, ?_⟩) (by assumption) ?_
        rotate_left
        · intro w hSw; go_simp; first | done | with_reducible rfl
        try simp only [Act.put, List.setIfInBounds_toArray, List.set_cons_zero, List.set_cons_succ]
        refine wpAnyH_take (i := 15) (oi := ⟨some 91, _, _, _, _, _⟩) (v := ?_) rfl (by kernel_rfl) (by kernel_rfl) (by kernel_rfl) (fun _ _ _ h => h) (Or.inl ⟨by rfl, ?_⟩) (by assumption) ?_
        rotate_left
        · intro w hSw; go_simp; first | done | with_reducible rfl
        try simp only [Act.put, List.setIfInBounds_toArray, List.set_cons_zero, List.set_cons_succ]
        refine wpAnyH_take (i := 16) (oi := ⟨some 92, _, _, _, _, _⟩) (v := ?_) rfl (by kernel_rfl) (by kernel_rfl) (by kernel_rfl) (fun _ _ _ h => h) (Or.inl ⟨by rfl, ?_⟩) (by assumption) ?_
        rotate_left
        · intro w hSw; go_simp; first | done | with_reducible rfl
        try simp only [Act.put, List.setIfInBounds_toArray, List.set_cons_zero, List.set_cons_succ]
        refine wpAnyH_ready (rs := [17]) (by kernel_rfl) (by simp) ?_
        refine AllReadyH.cons (o := ⟨some 93, _, _, _, _, _⟩) rfl (fun K hK => ?_) AllReadyH.nil
        go_simp
        refine (HK.out _).mono ?_
        rintro e w' ⟨rfl, hbw⟩
        go_simp
        refine hK.out _ _ (Pq.below hHeld hbw) (fun hHeld => ?_)
        clear hK K
        try simp only [Act.put, List.setIfInBounds_toArray, List.set_cons_zero, List.set_cons_succ]
        refine wpAnyH_take (i := 18) (oi := ⟨some 94, _, _, _, _, _⟩) (v := ?_) rfl (by kernel_rfl) (by kernel_rfl) (by kernel_rfl) (fun _ _ _ h => h) (Or.inl ⟨by rfl, ?_⟩) (by assumption) ?_
        rotate_left
        · intro w hSw; go_simp; first | done | with_reducible rfl
        try simp only [Act.put, List.setIfInBounds_toArray, List.set_cons_zero, List.set_cons_succ]
        refine wpAnyH_take (i := 19) (oi := ⟨some 6, _, _, _, _, _⟩) (v := ?_) rfl (by kernel_rfl) (by kernel_rfl) (by kernel_rfl) (fun _ _ _ h => h) (Or.inl ⟨by rfl, ?_⟩) (by assumption) ?_
        rotate_left
        · intro w hSw; go_simp; first | done | with_reducible rfl
        try simp only [Act.put, List.setIfInBounds_toArray, List.set_cons_zero, List.set_cons_succ]
        refine wpAnyH_done (by kernel_rfl) ?_ _
        refine NoPanic.normal ?_
        have PQ9 := Lib.hid hHeld
        clear PQ cA cO cX hcv hbw hHeld
        go_wp2_with fail
        go_ret
        exact ⟨ret_b (by simp), PQ9.out.base⟩

set_option maxRecDepth 100000 in
set_option maxHeartbeats 1000000 in
theorem puts_walk (A : Option Addr) (l : Bs) (c : Nat) (a : Int) (C : Option Addr) (p : Bs) (d : Nat) (W : World) (ha : Arg W A l c) (hn : (Lit.int .u64 a).wf = true) (hb : Arg W C p d) :
    Calls Try.prog 3 #[.slice A l.length c, .int .u64 a, .slice C p.length d] W (boolBelow W) := by
  obtain ⟨n0, n1⟩ := bounds_u64 hn
  obtain ⟨n, rfl⟩ := Int.eq_ofNat_of_zero_le n0
  have HK := known_hid
  have hl := Nat.le_trans ha.le ha.max
  have hp := Nat.le_trans hb.le hb.max
  unfold maxLen at hl hp
  have hc : (l.length ≤ 300 ∧ p.length ≤ 300) ∨ 300 < l.length ∨ (l.length ≤ 300 ∧ 300 < p.length) := by omega
  rcases hc with ⟨h1, h2⟩ | h1 | ⟨h1, h2⟩
  · exact puts_main A C l p c d n W ha hb (by unfold big; omega) h1 h2
  · have h1' : (300 : Int) < (l.length : Int) := by omega
    clear ha hb hn h1
    go_enter Try.func3, Try.ntmps3
    go_wp2_with fail
    refine (HK.out _).mono ?_
    rintro e w1 ⟨rfl, hb⟩
    go_wp2_with fail
    go_ret
    exact ⟨rfl, hb⟩
  · have h1' : (l.length : Int) ≤ 300 := by omega
    have h2' : (300 : Int) < (p.length : Int) := by omega
    clear ha hb hn h1 h2
    go_enter Try.func3, Try.ntmps3
    go_wp2_with fail
    refine (HK.out _).mono ?_
    rintro e w1 ⟨rfl, hb⟩
    go_wp2_with fail
    go_ret
    exact ⟨rfl, hb⟩
end Go.Proofs.Ytngeocacbegjkaa.Vu
