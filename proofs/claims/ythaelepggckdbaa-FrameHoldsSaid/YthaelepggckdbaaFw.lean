/- Proves what package frame's Size, Equal and Write return, and the specification's Equal and Write. Conditions: few bytes. -/
import Derived.Test.YthaelepggckdbaaFm
import Derived.Test.YthaelepggckdbaaFc
import Derived.Test.YthaelepggckdbaaVr
import Derived.Test.YthaelepggckdbaaGc
import Derived.Deep.RegionHeld3
namespace Go.Proofs.Ythaelepggckdbaa.Fw
open Go.RowKit Vm Ap Vw Va Vr Gc Fm Fc

/-- A frame as a value: its code, and its payload as a slice. -/
def frV (c : UInt8) (A : Option Addr) (p : Bs) (k : Nat) : Value := .agg #[.int .u8 (c.toNat : Int), .slice A p.length k]
def frO (c : UInt8) (A : Option Addr) (p : Bs) (k : Nat) : Obj := .cells #[.int .u8 (c.toNat : Int), .slice A p.length k] 24
theorem size_at (n : Nat) (x s : Int) (w : World) (hx : (n : Int) = x) (hn : n < big) (hs : ((encN n).length : Int) = s) :
    Calls Try.prog 21 #[.int .u64 x] w fun e w' => e = .returned (.int .i64 s) ∧ w = w' := by subst hx; subst hs; exact size_any n w hn
/-- Two numbers behind a call that changes nothing older. -/
def twoPost (w : World) (a b : Int) : Ending → World → Prop := fun e w' => e = .returned (.tuple #[.int .i64 a, .int .i64 b]) ∧ Below w.heap.size w w'

set_option maxRecDepth 100000 in
set_option maxHeartbeats 400000 in
theorem fsize_no (c : UInt8) (A : Option Addr) (p : Bs) (k : Nat) (w : World) (hp : 2097152 < p.length) :
    Calls Try.prog 11 #[.agg #[.int .u8 (c.toNat : Int), .slice A p.length k]] w (twoPost w 0 5) := by
  have hp1 : (2097152 : Int) < p.length := by omega
  go_enter Try.func11, Try.ntmps11
  go_wp2_with fail
  go_ret2
  exact ⟨rfl, alloc_below _ _⟩
set_option maxRecDepth 100000 in
set_option maxHeartbeats 400000 in
theorem fsize_ok (c : UInt8) (A : Option Addr) (p : Bs) (k : Nat) (w : World) (hp : p.length ≤ 2097152) :
    Calls Try.prog 11 #[.agg #[.int .u8 (c.toNat : Int), .slice A p.length k]] w (twoPost w ((wire c p).length : Int) 0) := by
  have hp1 : (p.length : Int) ≤ 2097152 := by omega
  have hle := enc_le (p.length + 1) (by unfold big; omega)
  have HW : Hid (((encN (p.length + 1)).length : Int) + (1 + p.length) = ((wire c p).length : Int)) := by show _ = _; rw [wire_len]; omega
  generalize (wire c p).length = z at *
  have HS : Hid (∀ w, Calls Try.prog 21 #[.int .u64 (1 + (p.length : Int))] w fun e w' => e = .returned (.int .i64 ((encN (p.length + 1)).length : Int)) ∧ w = w') := fun w => size_at (p.length + 1) _ _ w (by omega) (by unfold big; omega) rfl
  generalize (encN (p.length + 1)).length = s at *
  go_enter Try.func11, Try.ntmps11
  go_wp2_with fail
  refine (HS.out _).mono ?_
  rintro e w' ⟨rfl, rfl⟩
  go_wp2_with fail
  go_ret2
  exact ⟨by rw [← HW.out]; rfl, alloc_below _ _⟩

/-- Whether two frames are equal. -/
def eqv (c d : UInt8) (l m : Bs) : Bool := decide (c = d ∧ l = m)
theorem eqv_self (c : UInt8) (l : Bs) : eqv c c l l = true := by simp [eqv]
theorem bequal_any (A C : Option Addr) (l m : Bs) (c d : Nat) (w : World) (hA : Rb w A l) (hC : Rb w C m) :
    Calls Try.prog 22 #[.slice A l.length c, .slice C m.length d] w fun e w' => e = .returned (.bool (decide (l = m))) ∧ w = w' := by
  have h1 := conv_str c hA
  have h2 := conv_str d hC
  go_enter Try.func22, Try.ntmps22
  go_wp2_with fail
  go_ret
  exact ⟨ret_b (by rw [Bool.eq_iff_iff]; simp), rfl⟩
theorem eqv_no {c d : UInt8} {l m : Bs} (h : c ≠ d) : eqv c d l m = false := by simp [eqv, h]
theorem eqv_yes {c : UInt8} {l m : Bs} : eqv c c l m = decide (l = m) := by simp [eqv]
theorem ne_int {c d : UInt8} (h : c ≠ d) : ((c.toNat : Int) == (d.toNat : Int)) = false := by
  rw [beq_eq_false_iff_ne]; intro e; exact h (UInt8.toNat_inj.1 (by omega))
set_option maxRecDepth 100000 in
set_option maxHeartbeats 400000 in
theorem requal_any (c d : UInt8) (A C : Option Addr) (l m : Bs) (j k : Nat) (w : World) (hA : Rb w A l) (hC : Rb w C m) :
    Calls Try.prog 13 #[.agg #[.int .u8 (c.toNat : Int), .slice A l.length j], .agg #[.int .u8 (d.toNat : Int), .slice C m.length k]] w (boolOf (eqv c d l m) w) := by
  by_cases h : c = d
  · subst h
    have HE := Lib.hid (eqv_yes (c := c) (l := l) (m := m))
    have hb : ∀ o p, Below w.heap.size w ((w.alloc o).alloc p) := two_below w
    have h1 : ∀ o p, (convert 22 9 (.slice A l.length j)).run Try.prog ((w.alloc o).alloc p) = .ok (.string ⟨l.toArray⟩) ((w.alloc o).alloc p) := fun o p => conv_str j (hA.below (hb o p) (Nat.le_refl _))
    have h2 : ∀ o p, (convert 22 9 (.slice C m.length k)).run Try.prog ((w.alloc o).alloc p) = .ok (.string ⟨m.toArray⟩) ((w.alloc o).alloc p) := fun o p => conv_str k (hC.below (hb o p) (Nat.le_refl _))
    have HB := Lib.hid hb
    generalize eqv c c l m = b at *
    clear hb hA hC
    go_enter Try.func13, Try.ntmps13
    go_wp2_with fail
    go_ret
    exact ⟨ret_b (by rw [HE.out, Bool.eq_iff_iff]; simp), HB.out _ _⟩
  · have HE := Lib.hid (eqv_no (l := l) (m := m) h)
    have hne := ne_int h
    clear h
    go_enter Try.func13, Try.ntmps13
    go_wp2_with fail
    go_ret
    exact ⟨ret_b HE.out.symm, two_below _ _ _⟩
set_option maxRecDepth 100000 in
set_option maxHeartbeats 400000 in
theorem fequal_any (c d : UInt8) (A C : Option Addr) (l m : Bs) (j k : Nat) (w : World) (hA : Rb w A l) (hC : Rb w C m) :
    Calls Try.prog 12 #[.agg #[.int .u8 (c.toNat : Int), .slice A l.length j], .agg #[.int .u8 (d.toNat : Int), .slice C m.length k]] w (boolOf (eqv c d l m) w) := by
  by_cases h : c = d
  · subst h
    have HE := Lib.hid (eqv_yes (c := c) (l := l) (m := m))
    have HB : Hid (∀ o p, Below w.heap.size w ((w.alloc o).alloc p)) := two_below w
    have HQ : Hid (∀ o p, Calls Try.prog 22 #[.slice A l.length j, .slice C m.length k] ((w.alloc o).alloc p) fun e w' => e = .returned (.bool (eqv c c l m)) ∧ (w.alloc o).alloc p = w') := fun o p => by
      rw [HE.out]; exact bequal_any A C l m j k _ (hA.below (HB.out o p) (Nat.le_refl _)) (hC.below (HB.out o p) (Nat.le_refl _))
    generalize eqv c c l m = b at *
    clear hA hC
    go_enter Try.func12, Try.ntmps12
    go_wp2_with fail
    refine (HQ.out _ _).mono ?_
    rintro e w' ⟨rfl, rfl⟩
    go_wp2_with fail
    go_ret
    exact ⟨rfl, HB.out _ _⟩
  · have HE := Lib.hid (eqv_no (l := l) (m := m) h)
    have hne := ne_int h
    clear h
    go_enter Try.func12, Try.ntmps12
    go_wp2_with fail
    go_ret
    exact ⟨ret_b HE.out.symm, two_below _ _ _⟩

/-- What Write leaves. -/
def writePost (w : World) (l : Bs) (n : Int) : Ending → World → Prop := fun e w' => ∃ v, e = .returned (.tuple #[v, .int .i64 n]) ∧ Own w.heap.size w' v l ∧ Below w.heap.size w w'
set_option maxRecDepth 100000 in
set_option maxHeartbeats 400000 in
theorem rwrite_ok (c : UInt8) (A : Option Addr) (p : Bs) (k : Nat) (w : World) (hA : Rb w A p) (hk : A = none → k = 0) (hp : p.length ≤ 2097152) :
    Calls Try.prog 10 #[.agg #[.int .u8 (c.toNat : Int), .slice A p.length k]] w (writePost w (wire c p) 0) := by
  have hp1 : (p.length : Int) ≤ 2097152 := by omega
  have hn : p.length + 1 < big := by unfold big; omega
  have hle := enc_le (p.length + 1) hn
  have HR : Hid (∀ w, Calls Try.prog 20 #[.int .u64 ((p.length : Int) + 1)] w (bytesPost w (encN (p.length + 1)))) := fun w => rput_any (p.length + 1) w hn
  have HA := Lib.hid hA; have HK := Lib.hid hk
  have c1 := c.toNat_lt
  have hof : UInt8.ofNat c.toNat = c := by simp
  have HC := Lib.hid (cells_one c.toNat c1)
  rw [hof] at HC
  obtain ⟨en, hen⟩ : ∃ en, en = encN (p.length + 1) := ⟨_, rfl⟩
  rw [← hen] at HR hle
  obtain ⟨ec, hec⟩ : ∃ ec, ec = en ++ [c] := ⟨_, rfl⟩
  have HWI : Hid (wire c p = ec ++ p) := by show _ = _; unfold wire; rw [hec, hen, List.append_assoc]; rfl
  have hel : ec.length ≤ 11 := by rw [hec, List.length_append]; simp; omega
  have HEC := Lib.hid hec
  clear hA hk hof hen hec hn
  obtain ⟨w0, hw0⟩ : ∃ w0, w0 = w.alloc (.cells #[.int .u8 (c.toNat : Int), .slice A p.length k] 24) := ⟨_, rfl⟩
  have B0 : Below w.heap.size w w0 := by rw [hw0]; exact alloc_below _ _
  have ca0 : w0.cell? ⟨w.heap.size, 0, none⟩ = some (.int .u8 (c.toNat : Int)) := by rw [hw0, cell_of_row _ _ 0 _ _ (0, 0) (heap_alloc_new _ _)]; rfl
  have ca1 : w0.cell? ⟨w.heap.size, 1, none⟩ = some (.slice A p.length k) := by rw [hw0, cell_of_row _ _ 1 _ _ (0, 0) (heap_alloc_new _ _)]; rfl
  have hla := World.block_lt_of_cell? _ _ ca0
  have HA0 := Lib.hid (HA.out.below B0 (Nat.le_refl _))
  have HB0 := Lib.hid B0
  have CA0 := Lib.hid ca0; have CA1 := Lib.hid ca1
  clear ca0 ca1 B0
  go_enter Try.func10, Try.ntmps10
  go_wp2_with fail
  rw [← hw0]
  clear hw0
  refine (HR.out _).mono ?_
  rintro e w1 ⟨v1, rfl, h1, b1⟩
  have H1 := Lib.hid h1
  have B1 := Lib.hid (HB0.out.trans (b1.mono HB0.out.size))
  have HA1 := Lib.hid (HA0.out.below b1 (Nat.le_refl _))
  have cx0 : w1.cell? ⟨w.heap.size, 0, none⟩ = some (.int .u8 (c.toNat : Int)) := by rw [b1.cell (p := ⟨w.heap.size, 0, none⟩) hla]; exact CA0.out
  have CX1 : Hid (w1.cell? ⟨w.heap.size, 1, none⟩ = some (.slice A p.length k)) := by show _ = _; rw [b1.cell (p := ⟨w.heap.size, 1, none⟩) hla]; exact CA1.out
  have hz1 := b1.size
  have B01 := Lib.hid b1
  clear h1 b1
  go_wp2_with (at_builtin; (refine wpList_app rfl _ _ elB rfl rfl (own_row H1.out) #[.int .u8 (c.toNat : Int)] rfl (one_cell _ _) (by omega) (by show 1 ≤ 1000000000; omega) hz1 ?_))
  intro v2 w2 h2 g2
  have H2 : Hid (Own w0.heap.size w2 v2 ec) := by
    show Own _ _ _ _
    unfold Own
    rw [HEC.out, List.map_append, HC.out, List.length_append]
    exact h2
  have b2 : Below w0.heap.size w1 w2 := (Below.refl _ _).grown g2 hz1 (fun j e => (World.ownsRow.lt H1.out j e).1)
  have B02 := Lib.hid (B01.out.trans b2)
  have cy1 : w2.cell? ⟨w.heap.size, 1, none⟩ = some (.slice A p.length k) := by rw [b2.cell (p := ⟨w.heap.size, 1, none⟩) hla]; exact CX1.out
  have HA2 := Lib.hid (HA0.out.below B02.out (Nat.le_refl _))
  have hz2 := B02.out.size
  clear h2 g2 b2 cx0
  go_wp2_with (at_builtin; (refine wpList_from rfl _ _ rfl rfl H2.out p A k rfl HK.out HA2.out (by omega) (by omega) hz2 ?_))
  intro v3 w3 h3 g3
  have H3 : Hid (Own w.heap.size w3 v3 (wire c p)) := by show Own _ _ _ _; rw [HWI.out]; exact own_base h3 HB0.out.size
  have B3 : Hid (Below w.heap.size w w3) := HB0.out.trans ((B02.out.grown g3 hz2 (fun j e => (World.ownsRow.lt H2.out j e).1)).mono HB0.out.size)
  clear h3 g3
  go_wp2_with fail
  go_ret2
  exact ⟨v3, rfl, H3.out, B3.out⟩
set_option maxRecDepth 100000 in
set_option maxHeartbeats 400000 in
theorem fwrite_no (c : UInt8) (A : Option Addr) (p : Bs) (k : Nat) (w : World) (hp : 2097152 < p.length) :
    Calls Try.prog 9 #[.agg #[.int .u8 (c.toNat : Int), .slice A p.length k]] w (writePost w [] 5) := by
  have hp1 : (2097152 : Int) < p.length := by omega
  go_enter Try.func9, Try.ntmps9
  go_wp2_with fail
  go_ret2
  exact ⟨_, rfl, own_nil _ _, alloc_below _ _⟩
/-- Concat of three slices that have just been laid side by side. -/
theorem concat3 (w : World) (nb : Nat) (hnb : w.heap.size = nb) (X Y Z : Option Addr) (x y z : Bs) (nx ny nz a b c : Nat) (hx : x.length = nx) (hy : y.length = ny) (hz : z.length = nz) (h1 : Rb w X x) (h2 : Rb w Y y) (h3 : Rb w Z z) (n1 : X = none → a = 0) (n2 : Y = none → b = 0) (n3 : Z = none → c = 0) (hs : nx + ny + nz ≤ 1000000000) :
    Calls Try.prog 18 #[.slice (some ⟨nb, 0, none⟩) 3 3] (w.alloc (.cells #[.slice X nx a, .slice Y ny b, .slice Z nz c] 22)) (bytesPost (w.alloc (.cells #[.slice X nx a, .slice Y ny b, .slice Z nz c] 22)) (x ++ (y ++ (z ++ [])))) := by
  subst hx; subst hy; subst hz; subst hnb
  have hb := alloc_below w (.cells #[.slice X x.length a, .slice Y y.length b, .slice Z z.length c] 22)
  refine concat_any (some ⟨w.heap.size, 0, none⟩) [⟨X, x, a⟩, ⟨Y, y, b⟩, ⟨Z, z, c⟩] 3 _ ?_ ?_ ?_ (by simp)
  · intro _
    refine ⟨w.heap.size, 0, rfl, by simp, fun j hj => ?_⟩
    rw [Nat.zero_add, cell_of_row _ _ j _ _ (0, 0) (heap_alloc_new _ _)]
    match j, hj with
    | 0, _ => rfl
    | 1, _ => rfl
    | 2, _ => rfl
  · intro s hs
    simp only [List.mem_cons, List.not_mem_nil, or_false] at hs
    rcases hs with rfl | rfl | rfl
    · exact ⟨h1.below hb (Nat.le_refl _), n1⟩
    · exact ⟨h2.below hb (Nat.le_refl _), n2⟩
    · exact ⟨h3.below hb (Nat.le_refl _), n3⟩
  · simp [flat]; omega
set_option maxRecDepth 100000 in
set_option maxHeartbeats 4000000 in
theorem fwrite_ok (c : UInt8) (A : Option Addr) (p : Bs) (k : Nat) (w : World) (hA : Rb w A p) (hk : A = none → k = 0) (hp : p.length ≤ 2097152) :
    Calls Try.prog 9 #[.agg #[.int .u8 (c.toNat : Int), .slice A p.length k]] w (writePost w (wire c p) 0) := by
  have hp1 : (p.length : Int) ≤ 2097152 := by omega
  have hn : p.length + 1 < big := by unfold big; omega
  have hle := enc_le (p.length + 1) hn
  have HR : Hid (∀ w, Calls Try.prog 19 #[.slice none 0 0, .int .u64 (IntKind.u64.wrap (1 + (p.length : Int)))] w (bytesPost w (encN (p.length + 1)))) := fun w => by
    have := put_any none [] 0 (p.length + 1) w (Rb.nil _ _) (fun _ => rfl) (by simp) hn
    rw [show ((p.length + 1 : Nat) : Int) = IntKind.u64.wrap (1 + (p.length : Int)) from by rw [IntKind.wrap_u64]; omega] at this
    exact this
  have HA := Lib.hid hA; have HK := Lib.hid hk
  have c1 := c.toNat_lt
  have HLI : Hid (∀ w : World, Rb (w.alloc (.cells #[.int .u8 (c.toNat : Int)] 5)) (some ⟨w.heap.size, 0, none⟩) [c]) := fun w => Rb.lit w [c] (by simp)
  obtain ⟨en, hen⟩ : ∃ en, en = encN (p.length + 1) := ⟨_, rfl⟩
  rw [← hen] at HR hle
  have HWI : Hid (wire c p = en ++ ([c] ++ (p ++ []))) := by show _ = _; unfold wire; rw [hen, List.append_nil]; rfl
  clear hA hk hen hn
  obtain ⟨w0, hw0⟩ : ∃ w0, w0 = w.alloc (.cells #[.int .u8 (c.toNat : Int), .slice A p.length k] 24) := ⟨_, rfl⟩
  have B0 : Below w.heap.size w w0 := by rw [hw0]; exact alloc_below _ _
  have ca0 : w0.cell? ⟨w.heap.size, 0, none⟩ = some (.int .u8 (c.toNat : Int)) := by rw [hw0, cell_of_row _ _ 0 _ _ (0, 0) (heap_alloc_new _ _)]; rfl
  have ca1 : w0.cell? ⟨w.heap.size, 1, none⟩ = some (.slice A p.length k) := by rw [hw0, cell_of_row _ _ 1 _ _ (0, 0) (heap_alloc_new _ _)]; rfl
  have hla := World.block_lt_of_cell? _ _ ca0
  have HA0 := Lib.hid (HA.out.below B0 (Nat.le_refl _))
  have HB0 := Lib.hid B0
  have cx0 : ∀ v, Below w0.heap.size w0 v → v.cell? ⟨w.heap.size, 0, none⟩ = some (.int .u8 (c.toNat : Int)) := fun v h => by rw [h.cell (p := ⟨w.heap.size, 0, none⟩) hla]; exact ca0
  have cx1 : ∀ v, Below w0.heap.size w0 v → v.cell? ⟨w.heap.size, 1, none⟩ = some (.slice A p.length k) := fun v h => by rw [h.cell (p := ⟨w.heap.size, 1, none⟩) hla]; exact ca1
  have h00 : Below w0.heap.size w0 w0 := Below.refl _ _
  clear ca0 ca1 B0
  go_enter Try.func9, Try.ntmps9
  go_wp2_with fail
  rw [← hw0]
  clear hw0
  refine wp_region_noPanic ?_
  refine wp_region_held_drew (S := fun v => Below w0.heap.size w0 v) (by kernel_rfl) ((Below.refl _ _).drew) (fun hHeld => ?_)
  refine wpAnyH_take (i := 0) (oi := ⟨some 13, _, _, _, _, _⟩) (v := ?_) rfl (by kernel_rfl) (by kernel_rfl) (by kernel_rfl) (fun _ _ _ h => h) (Or.inl ⟨by rfl, ?_⟩) (by assumption) ?_
  rotate_left
  · intro w hSw; go_simp; first | done | with_reducible rfl
  try simp only [Act.put, List.setIfInBounds_toArray, List.set_cons_zero, List.set_cons_succ]
  refine wpAnyH_take (i := 1) (oi := ⟨some 14, _, _, _, _, _⟩) (v := ?_) rfl (by kernel_rfl) (by kernel_rfl) (by kernel_rfl) (fun _ _ _ h => h) (Or.inl ⟨by rfl, ?_⟩) (by assumption) ?_
  rotate_left
  · intro w hSw; go_simp; first | done | with_reducible rfl
  try simp only [Act.put, List.setIfInBounds_toArray, List.set_cons_zero, List.set_cons_succ]
  refine wpAnyH_take (i := 3) (oi := ⟨some 16, _, _, _, _, _⟩) (v := ?_) rfl (by kernel_rfl) (by kernel_rfl) (by kernel_rfl) (fun _ _ _ h => h) (Or.inl ⟨by rfl, ?_⟩) (by assumption) ?_
  rotate_left
  · intro w hSw; go_simp; first | done | with_reducible rfl
  try simp only [Act.put, List.setIfInBounds_toArray, List.set_cons_zero, List.set_cons_succ]
  refine wpAnyH_take (i := 4) (oi := ⟨some 17, _, _, _, _, _⟩) (v := ?_) rfl (by kernel_rfl) (by kernel_rfl) (by kernel_rfl) (fun _ _ _ h => h) (Or.inl ⟨by rfl, ?_⟩) (by assumption) ?_
  rotate_left
  · intro w hSw; go_simp; first | done | with_reducible rfl
  try simp only [Act.put, List.setIfInBounds_toArray, List.set_cons_zero, List.set_cons_succ]
  refine wpAnyH_take (i := 6) (oi := ⟨some 19, _, _, _, _, _⟩) (v := ?_) rfl (by kernel_rfl) (by kernel_rfl) (by kernel_rfl) (fun _ _ _ h => h) (Or.inl ⟨by rfl, ?_⟩) (by assumption) ?_
  rotate_left
  · intro w hSw; go_simp; first | done | with_reducible rfl
  try simp only [Act.put, List.setIfInBounds_toArray, List.set_cons_zero, List.set_cons_succ]
  refine wpAnyH_take (i := 7) (oi := ⟨some 20, _, _, _, _, _⟩) (v := ?_) rfl (by kernel_rfl) (by kernel_rfl) (by kernel_rfl) (fun _ _ _ h => h) (Or.inl ⟨by rfl, ?_⟩) (by assumption) ?_
  rotate_left
  · intro w hSw; go_simp; first | done | with_reducible rfl
  try simp only [Act.put, List.setIfInBounds_toArray, List.set_cons_zero, List.set_cons_succ]
  refine wpAnyH_ready (rs := [2, 5]) (by kernel_rfl) (by simp) ?_
  refine AllReadyH.cons (o := ⟨some 15, _, _, _, _, _⟩) rfl (fun K hK => ?_) ?_
  · go_simp
    with_reducible refine (HR.out _).mono ?_
    rintro e w1 ⟨v1, rfl, h1, b1⟩
    obtain ⟨X, x, shX⟩ := own_shape h1
    obtain rfl := shX.val
    have SX := Lib.hid shX
    have HB1 : Hid (Below w0.heap.size w0 w1) := hHeld.trans (b1.mono hHeld.size)
    have HP1 := Lib.hid b1
    clear h1 b1 shX
    go_simp
    refine hK.out _ _ HB1.out (fun hHeld => ?_)
    clear hK K
    try simp only [Act.put, List.setIfInBounds_toArray, List.set_cons_zero, List.set_cons_succ]
    refine wpAnyH_ready (rs := [5]) (by kernel_rfl) (by simp) ?_
    refine AllReadyH.cons (o := ⟨some 18, _, _, _, _, _⟩) rfl (fun K hK => ?_) AllReadyH.nil
    go_simp
    have RX := Lib.hid (SX.out.rd.below (alloc_below w1 (.cells #[.int .u8 (c.toNat : Int)] 5)) (Nat.le_refl _))
    have RC := Lib.hid (HLI.out w1)
    have RP := Lib.hid (HA0.out.below (HB1.out.alloc HB1.out.size (.cells #[.int .u8 (c.toNat : Int)] 5)) (Nat.le_refl _))
    refine hK.out _ _ (hHeld.alloc hHeld.size _) (fun hHeld => ?_)
    clear hK K
    try simp only [Act.put, List.setIfInBounds_toArray, List.set_cons_zero, List.set_cons_succ]
    refine wpAnyH_ready (rs := [8]) (by kernel_rfl) (by simp) ?_
    refine AllReadyH.cons (o := ⟨some 21, _, _, _, _, _⟩) rfl (fun K hK => ?_) AllReadyH.nil
    go_simp
    refine hK.out _ _ (hHeld.alloc hHeld.size _) (fun hHeld => ?_)
    clear hK K
    try simp only [Act.put, List.setIfInBounds_toArray, List.set_cons_zero, List.set_cons_succ]
    refine wpAnyH_ready (rs := [9]) (by kernel_rfl) (by simp) ?_
    refine AllReadyH.cons (o := ⟨some 22, _, _, _, _, _⟩) rfl (fun K hK => ?_) AllReadyH.nil
    go_simp
    refine (concat3 (w1.alloc (.cells #[.int .u8 (c.toNat : Int)] 5)) _ (by simp) X (some ⟨w1.heap.size, 0, none⟩) A en [c] p en.length 1 p.length x 1 k rfl rfl rfl RX.out RC.out RP.out SX.out.non (fun e => by cases e) HK.out (by omega)).mono ?_
    rintro e w4 ⟨v4, rfl, h4, b4⟩
    have HBS := Lib.hid (Nat.le_trans HB0.out.size hHeld.size)
    have H4 := Lib.hid h4; have B4 := Lib.hid (Below.trans hHeld (b4.mono hHeld.size))
    clear h4 b4
    go_simp
    refine hK.out _ _ B4.out (fun hHeld => ?_)
    clear hK K
    try simp only [Act.put, List.setIfInBounds_toArray, List.set_cons_zero, List.set_cons_succ]
    refine wpAnyH_take (i := 10) (oi := ⟨some 2, _, _, _, _, _⟩) (v := ?_) rfl (by kernel_rfl) (by kernel_rfl) (by kernel_rfl) (fun _ _ _ h => h) (Or.inl ⟨by rfl, ?_⟩) (by assumption) ?_
    rotate_left
    · intro w hSw; go_simp; first | done | with_reducible rfl
    try simp only [Act.put, List.setIfInBounds_toArray, List.set_cons_zero, List.set_cons_succ]
    refine wpAnyH_take (i := 11) (oi := ⟨some 3, _, _, _, _, _⟩) (v := ?_) rfl (by kernel_rfl) (by kernel_rfl) (by kernel_rfl) (fun _ _ _ h => h) (Or.inl ⟨by rfl, ?_⟩) (by assumption) ?_
    rotate_left
    · intro w hSw; go_simp; first | done | with_reducible rfl
    try simp only [Act.put, List.setIfInBounds_toArray, List.set_cons_zero, List.set_cons_succ]
    refine wpAnyH_done (by kernel_rfl) ?_ _
    refine NoPanic.normal ?_
    go_wp2_with fail
    go_ret2
    exact ⟨v4, rfl, by rw [HWI.out]; exact own_base H4.out HBS.out, HB0.out.trans (B4.out.mono HB0.out.size)⟩
  refine AllReadyH.cons (o := ⟨some 18, _, _, _, _, _⟩) rfl (fun K hK => ?_) AllReadyH.nil
  · go_simp
    have RC0 := Lib.hid (HLI.out w0.drew)
    refine hK.out _ _ (hHeld.alloc hHeld.size _) (fun hHeld => ?_)
    clear hK K
    try simp only [Act.put, List.setIfInBounds_toArray, List.set_cons_zero, List.set_cons_succ]
    refine wpAnyH_ready (rs := [2]) (by kernel_rfl) (by simp) ?_
    refine AllReadyH.cons (o := ⟨some 15, _, _, _, _, _⟩) rfl (fun K hK => ?_) AllReadyH.nil
    go_simp
    with_reducible refine (HR.out _).mono ?_
    rintro e w1 ⟨v1, rfl, h1, b1⟩
    obtain ⟨X, x, shX⟩ := own_shape h1
    obtain rfl := shX.val
    have SX := Lib.hid shX
    have HB1 : Hid (Below w0.heap.size w0 w1) := hHeld.trans (b1.mono hHeld.size)
    have HP1 := Lib.hid b1
    clear h1 b1 shX
    go_simp
    have RC := Lib.hid (RC0.out.below HP1.out (Nat.le_refl _))
    have RP := Lib.hid (HA0.out.below HB1.out (Nat.le_refl _))
    refine hK.out _ _ HB1.out (fun hHeld => ?_)
    clear hK K
    try simp only [Act.put, List.setIfInBounds_toArray, List.set_cons_zero, List.set_cons_succ]
    refine wpAnyH_ready (rs := [8]) (by kernel_rfl) (by simp) ?_
    refine AllReadyH.cons (o := ⟨some 21, _, _, _, _, _⟩) rfl (fun K hK => ?_) AllReadyH.nil
    go_simp
    refine hK.out _ _ (hHeld.alloc hHeld.size _) (fun hHeld => ?_)
    clear hK K
    try simp only [Act.put, List.setIfInBounds_toArray, List.set_cons_zero, List.set_cons_succ]
    refine wpAnyH_ready (rs := [9]) (by kernel_rfl) (by simp) ?_
    refine AllReadyH.cons (o := ⟨some 22, _, _, _, _, _⟩) rfl (fun K hK => ?_) AllReadyH.nil
    go_simp
    refine (concat3 w1 _ rfl X (some ⟨w0.heap.size, 0, none⟩) A en [c] p en.length 1 p.length x 1 k rfl rfl rfl SX.out.rd RC.out RP.out SX.out.non (fun e => by cases e) HK.out (by omega)).mono ?_
    rintro e w4 ⟨v4, rfl, h4, b4⟩
    have HBS := Lib.hid (Nat.le_trans HB0.out.size hHeld.size)
    have H4 := Lib.hid h4; have B4 := Lib.hid (Below.trans hHeld (b4.mono hHeld.size))
    clear h4 b4
    go_simp
    refine hK.out _ _ B4.out (fun hHeld => ?_)
    clear hK K
    try simp only [Act.put, List.setIfInBounds_toArray, List.set_cons_zero, List.set_cons_succ]
    refine wpAnyH_take (i := 10) (oi := ⟨some 2, _, _, _, _, _⟩) (v := ?_) rfl (by kernel_rfl) (by kernel_rfl) (by kernel_rfl) (fun _ _ _ h => h) (Or.inl ⟨by rfl, ?_⟩) (by assumption) ?_
    rotate_left
    · intro w hSw; go_simp; first | done | with_reducible rfl
    try simp only [Act.put, List.setIfInBounds_toArray, List.set_cons_zero, List.set_cons_succ]
    refine wpAnyH_take (i := 11) (oi := ⟨some 3, _, _, _, _, _⟩) (v := ?_) rfl (by kernel_rfl) (by kernel_rfl) (by kernel_rfl) (fun _ _ _ h => h) (Or.inl ⟨by rfl, ?_⟩) (by assumption) ?_
    rotate_left
    · intro w hSw; go_simp; first | done | with_reducible rfl
    try simp only [Act.put, List.setIfInBounds_toArray, List.set_cons_zero, List.set_cons_succ]
    refine wpAnyH_done (by kernel_rfl) ?_ _
    refine NoPanic.normal ?_
    go_wp2_with fail
    go_ret2
    exact ⟨v4, rfl, by rw [HWI.out]; exact own_base H4.out HBS.out, HB0.out.trans (B4.out.mono HB0.out.size)⟩
end Go.Proofs.Ythaelepggckdbaa.Fw
