/- Proves what package response's functions that write return: the bytes of numbers, items, lists and parts, and Write. Conditions: responses of bounded parts. -/
import Derived.Test.YthlfahblnpijaaaDoorSb
import Derived.Test.YthlfahblnpijaaaDoorSw
import Derived.Test.YthlfahblnpijaaaDoorVab
import Derived.Test.YthlfahblnpijaaaDoorFc
import Derived.Test.YthlfahblnpijaaaDoorSg
import Derived.Deep.RegionHeld3
namespace Go.Proofs.YthlfahblnpijaaaDoor.Sx
open Go.RowKit Vm Ap Vw Va Vab Gc Mi Mb Qm Sm Se So Sb Sw Fc

/-- A literal of slices of bytes. -/
theorem rs_lit {w : World} {nb : Nat} (hnb : w.heap.size = nb) (ls : List Sl) (cs : Array Value) (hc : cs.toList = ls.map slV) : Rs (w.alloc (.cells cs 29)) (some ⟨nb, 0, none⟩) ls := fun _ => by
  subst hnb
  refine ⟨w.heap.size, 0, rfl, by simp, fun j hj => ?_⟩
  rw [cell_of_row _ _ _ _ _ (0, 0) (heap_alloc_new _ _)]
  have : cs[0 + j]? = (ls.map slV)[0 + j]? := by rw [← hc]; simp
  rw [this]; simp [slV, List.getElem?_eq_getElem hj]
set_option maxHeartbeats 400000 in
theorem putN_at {m : Int} (w : World) (h0 : 0 ≤ m) (h1 : m < 18446744073709551616) : Calls Tryd.prog 14 #[.int .u64 m] w (bytesPost w (encN m.toNat)) := by
  have e : ((m.toNat : Nat) : Int) = m := by omega
  have HP := Lib.hid (put_any none [] 0 m.toNat w (Rb.nil _ _) (fun _ => rfl) (by simp) (by unfold big; omega))
  rw [e] at HP
  simp only [List.nil_append, List.length_nil] at HP
  go_enter Tryd.func14, Tryd.ntmps14
  go_wp2_with fail
  refine HP.out.mono ?_
  rintro e w1 ⟨v1, rfl, h1, b1⟩
  have H1 := Lib.hid h1; have B1 := Lib.hid b1
  clear h1 b1
  go_wp2_with fail
  go_ret
  exact ⟨_, rfl, H1.out, B1.out⟩
theorem putN_any (n : Nat) (w : World) (h : n < big) : Calls Tryd.prog 14 #[.int .u64 (n : Int)] w (bytesPost w (encN n)) := by
  have := putN_at (m := (n : Int)) w (by omega) (by unfold big at h; omega)
  rwa [Int.toNat_natCast] at this
set_option maxRecDepth 100000 in
set_option maxHeartbeats 4000000 in
theorem putI_any (y : Im) (w : World) (hr : Rb w y.A y.i.value) (hnn : y.A = none → y.k = 0) (hm0 : 0 ≤ y.i.mark) (hm1 : y.i.mark ≤ 9223372036854775807) (hl : y.i.value.length ≤ 1000000) (hv : y.i.version < big) (hd : y.i.dead < big) :
    Calls Tryd.prog 65 #[imV y] w (bytesPost w (encI y.i)) := by
  unfold imV
  obtain ⟨C, hC⟩ : ∃ C, C = w.heap.size := ⟨_, rfl⟩
  obtain ⟨w0, hw0⟩ : ∃ w0, w0 = w.alloc (imO y) := ⟨_, rfl⟩
  have HB : Hid (Below w.heap.size w w0) := by show Below _ _ _; rw [hw0]; exact alloc_below _ _
  have HBX : Hid (BoxI w0 C y) := by show BoxI _ _ _; rw [hw0, hC]; exact BoxI.new w y
  have HR0 := Lib.hid (hr.below HB.out (Nat.le_refl _))
  have HNN := Lib.hid hnn
  obtain ⟨a0, a1, a2, a3, _⟩ := HBX.out
  have HM := Lib.hid (fun W => putN_at (m := y.i.mark) W hm0 (by omega))
  have b0 := enc_le y.i.mark.toNat (by unfold big; omega)
  have b1 := enc_le y.i.version hv
  have b2 := enc_le y.i.dead hd
  have b3 := enc_le y.i.value.length (by unfold big; omega)
  have HV := Lib.hid (fun W => putN_any y.i.version W hv)
  have HDD := Lib.hid (fun W => putN_any y.i.dead W hd)
  have HPB : Hid (∀ W, Below w0.heap.size w0 W → Calls Tryd.prog 80 #[.slice none 0 0, .slice y.A y.i.value.length y.k] W (bytesPost W (encN y.i.value.length ++ y.i.value))) := fun W h => by
    have := putB_any none y.A [] y.i.value 0 y.k W (Rb.nil _ _) (fun _ => rfl) (by simp) (HR0.out.below h (Nat.le_refl _)) HNN.out (by omega)
    simpa using this
  have HE1 : Hid (y.i.mark = 0 → encI y.i = encN y.i.mark.toNat) := fun h => by unfold encI; rw [if_pos h, List.append_nil]
  have HE2 : Hid (y.i.mark ≠ 0 → encI y.i = encN y.i.mark.toNat ++ (encN y.i.version ++ (encN y.i.dead ++ (encN y.i.value.length ++ y.i.value)))) := fun h => by unfold encI encS; rw [if_neg h]
  have HSV : Hid (∃ q : Bs, q = encN y.i.value.length ++ y.i.value) := ⟨_, rfl⟩
  obtain ⟨q3, hq3⟩ := HSV.out
  rw [← hq3] at HPB HE2
  have b4 : q3.length ≤ 1000010 := by rw [hq3, List.length_append]; omega
  clear hq3 HSV b3
  generalize encN y.i.mark.toNat = q0 at *
  generalize encN y.i.version = q1 at *
  generalize encN y.i.dead = q2 at *
  generalize encI y.i = q at *
  unfold imO at hw0
  clear hr hnn
  go_enter Tryd.func65, Tryd.ntmps65
  go_upto_region 1 with fail
  rw [← hw0, ← hC]
  clear hw0 hC
  go_wp2_with fail
  refine (HM.out _).mono ?_
  rintro e w1 ⟨v1, rfl, h1, bb1⟩
  obtain ⟨P0, c0, s0⟩ := own_shape h1
  obtain rfl := s0.val
  have SP0 := Lib.hid s0; have HO0 := Lib.hid h1; have HB1 := Lib.hid bb1
  obtain ⟨d0, _, _, _, _⟩ := HBX.out.below bb1 (Nat.le_refl _)
  clear h1 s0 bb1 a0 a1 a2 a3
  by_cases hm : y.i.mark = 0
  · have e0 : (y.i.mark == 0) = true := by rw [hm]; rfl
    have HQ := Lib.hid (HE1.out hm)
    clear hm HE1 HE2
    go_wp2_with fail
    go_ret
    exact ⟨_, rfl, by rw [HQ.out]; exact own_base HO0.out HB.out.size, HB.out.trans (HB1.out.mono HB.out.size)⟩
  have e0 : (y.i.mark == 0) = false := by rw [beq_eq_false_iff_ne]; exact hm
  have HQ := Lib.hid (HE2.out hm)
  clear hm HE1 HE2
  go_wp2_with fail
  clear d0
  have k1 : ∀ v, Below w1.heap.size w1 v → v.cell? ⟨C, 1, none⟩ = some (.slice y.A y.i.value.length y.k) := fun v h => ((HBX.out.below HB1.out (Nat.le_refl _)).below h (Nat.le_refl _)).c1
  have k2 : ∀ v, Below w1.heap.size w1 v → v.cell? ⟨C, 2, none⟩ = some (.int .u64 (y.i.version : Int)) := fun v h => ((HBX.out.below HB1.out (Nat.le_refl _)).below h (Nat.le_refl _)).c2
  have k3 : ∀ v, Below w1.heap.size w1 v → v.cell? ⟨C, 3, none⟩ = some (.int .u64 (y.i.dead : Int)) := fun v h => ((HBX.out.below HB1.out (Nat.le_refl _)).below h (Nat.le_refl _)).c3
  refine wp_region_noPanic ?_
  refine wp_region_held_drew (S := fun v => Below w1.heap.size w1 v) (by kernel_rfl) ((Below.refl _ _).drew) (fun hHeld => ?_)
  refine wpAnyH_take (i := 0) (oi := ⟨some 12, _, _, _, _, _⟩) (v := ?_) rfl (by kernel_rfl) (by kernel_rfl) (by kernel_rfl) (fun _ _ _ h => h) (Or.inl ⟨by rfl, ?_⟩) (by assumption) ?_
  rotate_left
  · intro w hSw; go_simp; first | done | with_reducible rfl
  try simp only [Act.put, List.setIfInBounds_toArray, List.set_cons_zero, List.set_cons_succ]
  refine wpAnyH_take (i := 1) (oi := ⟨some 13, _, _, _, _, _⟩) (v := ?_) rfl (by kernel_rfl) (by kernel_rfl) (by kernel_rfl) (fun _ _ _ h => h) (Or.inl ⟨by rfl, ?_⟩) (by assumption) ?_
  rotate_left
  · intro w hSw; go_simp; first | done | with_reducible rfl
  try simp only [Act.put, List.setIfInBounds_toArray, List.set_cons_zero, List.set_cons_succ]
  refine wpAnyH_take (i := 2) (oi := ⟨some 14, _, _, _, _, _⟩) (v := ?_) rfl (by kernel_rfl) (by kernel_rfl) (by kernel_rfl) (fun _ _ _ h => h) (Or.inl ⟨by rfl, ?_⟩) (by assumption) ?_
  rotate_left
  · intro w hSw; go_simp; first | done | with_reducible rfl
  try simp only [Act.put, List.setIfInBounds_toArray, List.set_cons_zero, List.set_cons_succ]
  refine wpAnyH_take (i := 4) (oi := ⟨some 16, _, _, _, _, _⟩) (v := ?_) rfl (by kernel_rfl) (by kernel_rfl) (by kernel_rfl) (fun _ _ _ h => h) (Or.inl ⟨by rfl, ?_⟩) (by assumption) ?_
  rotate_left
  · intro w hSw; go_simp; first | done | with_reducible rfl
  try simp only [Act.put, List.setIfInBounds_toArray, List.set_cons_zero, List.set_cons_succ]
  refine wpAnyH_take (i := 5) (oi := ⟨some 17, _, _, _, _, _⟩) (v := ?_) rfl (by kernel_rfl) (by kernel_rfl) (by kernel_rfl) (fun _ _ _ h => h) (Or.inl ⟨by rfl, ?_⟩) (by assumption) ?_
  rotate_left
  · intro w hSw; go_simp; first | done | with_reducible rfl
  try simp only [Act.put, List.setIfInBounds_toArray, List.set_cons_zero, List.set_cons_succ]
  refine wpAnyH_take (i := 7) (oi := ⟨some 19, _, _, _, _, _⟩) (v := ?_) rfl (by kernel_rfl) (by kernel_rfl) (by kernel_rfl) (fun _ _ _ h => h) (Or.inl ⟨by rfl, ?_⟩) (by assumption) ?_
  rotate_left
  · intro w hSw; go_simp; first | done | with_reducible rfl
  try simp only [Act.put, List.setIfInBounds_toArray, List.set_cons_zero, List.set_cons_succ]
  refine wpAnyH_take (i := 8) (oi := ⟨some 20, _, _, _, _, _⟩) (v := ?_) rfl (by kernel_rfl) (by kernel_rfl) (by kernel_rfl) (fun _ _ _ h => h) (Or.inl ⟨by rfl, ?_⟩) (by assumption) ?_
  rotate_left
  · intro w hSw; go_simp; first | done | with_reducible rfl
  try simp only [Act.put, List.setIfInBounds_toArray, List.set_cons_zero, List.set_cons_succ]
  refine wpAnyH_ready (rs := [3]) (by kernel_rfl) (by simp) ?_
  refine AllReadyH.cons (o := ⟨some 15, _, _, _, _, _⟩) rfl (fun K hK => ?_) AllReadyH.nil
  go_simp
  with_reducible refine (HV.out _).mono ?_
  rintro e u1 ⟨v1, rfl, h1, bx⟩
  obtain ⟨P1, c1, s1⟩ := own_shape h1
  obtain rfl := s1.val
  have HU1 : Hid (Below w1.heap.size w1 u1) := hHeld.trans (bx.mono hHeld.size)
  have R0 := Lib.hid ((SP0.out.rd.below hHeld (Nat.le_refl _)).below bx (Nat.le_refl _))
  have SP1 := Lib.hid s1
  clear h1 s1 bx
  go_simp
  refine hK.out _ _ (HU1.out) (fun hHeld => ?_)
  clear hK K
  try simp only [Act.put, List.setIfInBounds_toArray, List.set_cons_zero, List.set_cons_succ]
  refine wpAnyH_ready (rs := [6]) (by kernel_rfl) (by simp) ?_
  refine AllReadyH.cons (o := ⟨some 18, _, _, _, _, _⟩) rfl (fun K hK => ?_) AllReadyH.nil
  go_simp
  with_reducible refine (HDD.out _).mono ?_
  rintro e u2 ⟨v2, rfl, h2, bx⟩
  obtain ⟨P2, c2, s2⟩ := own_shape h2
  obtain rfl := s2.val
  have HU2 : Hid (Below w1.heap.size w1 u2) := hHeld.trans (bx.mono hHeld.size)
  have R02 := Lib.hid (R0.out.below bx (Nat.le_refl _))
  have R1 := Lib.hid (SP1.out.rd.below bx (Nat.le_refl _))
  have SP2 := Lib.hid s2
  clear h2 s2 bx R0
  go_simp
  refine hK.out _ _ (HU2.out) (fun hHeld => ?_)
  clear hK K
  try simp only [Act.put, List.setIfInBounds_toArray, List.set_cons_zero, List.set_cons_succ]
  refine wpAnyH_ready (rs := [9]) (by kernel_rfl) (by simp) ?_
  refine AllReadyH.cons (o := ⟨some 21, _, _, _, _, _⟩) rfl (fun K hK => ?_) AllReadyH.nil
  go_simp
  with_reducible refine (HPB.out _ (HB1.out.trans (hHeld.mono HB1.out.size))).mono ?_
  rintro e u3 ⟨v3, rfl, h3, bx⟩
  obtain ⟨P3, c3, s3⟩ := own_shape h3
  obtain rfl := s3.val
  have HU3 : Hid (Below w1.heap.size w1 u3) := hHeld.trans (bx.mono hHeld.size)
  have R03 := Lib.hid (R02.out.below bx (Nat.le_refl _))
  have R13 := Lib.hid (R1.out.below bx (Nat.le_refl _))
  have R23 := Lib.hid (SP2.out.rd.below bx (Nat.le_refl _))
  have SP3 := Lib.hid s3
  clear h3 s3 bx R02 R1
  go_simp
  refine hK.out _ _ (HU3.out) (fun hHeld => ?_)
  clear hK K
  try simp only [Act.put, List.setIfInBounds_toArray, List.set_cons_zero, List.set_cons_succ]
  refine wpAnyH_ready (rs := [10]) (by kernel_rfl) (by simp) ?_
  refine AllReadyH.cons (o := ⟨some 22, _, _, _, _, _⟩) rfl (fun K hK => ?_) AllReadyH.nil
  go_simp
  refine hK.out _ _ (HU3.out.alloc HU3.out.size _) (fun hHeld => ?_)
  clear hK K
  try simp only [Act.put, List.setIfInBounds_toArray, List.set_cons_zero, List.set_cons_succ]
  have HC4 : Hid (∀ nb, u3.heap.size = nb → Calls Tryd.prog 13 #[.slice (some ⟨nb, 0, none⟩) 4 4] (u3.alloc (.cells #[.slice P0 q0.length c0, .slice P1 q1.length c1, .slice P2 q2.length c2, .slice P3 q3.length c3] 29)) (bytesPost (u3.alloc (.cells #[.slice P0 q0.length c0, .slice P1 q1.length c1, .slice P2 q2.length c2, .slice P3 q3.length c3] 29)) q)) := fun nb hnb => by
    have hb4 := alloc_below u3 (.cells #[.slice P0 q0.length c0, .slice P1 q1.length c1, .slice P2 q2.length c2, .slice P3 q3.length c3] 29)
    have h := concat_any (some ⟨nb, 0, none⟩) [⟨P0, q0, c0⟩, ⟨P1, q1, c1⟩, ⟨P2, q2, c2⟩, ⟨P3, q3, c3⟩] 4 _ (rs_lit hnb _ #[.slice P0 q0.length c0, .slice P1 q1.length c1, .slice P2 q2.length c2, .slice P3 q3.length c3] rfl)
      (fun x hx => by
        simp only [List.mem_cons, List.not_mem_nil, or_false] at hx
        rcases hx with rfl | rfl | rfl | rfl
        · exact ⟨R03.out.below hb4 (Nat.le_refl _), SP0.out.non⟩
        · exact ⟨R13.out.below hb4 (Nat.le_refl _), SP1.out.non⟩
        · exact ⟨R23.out.below hb4 (Nat.le_refl _), SP2.out.non⟩
        · exact ⟨SP3.out.rd.below hb4 (Nat.le_refl _), SP3.out.non⟩)
      (by unfold flat; simp; omega) (by simp)
    have e : flat [⟨P0, q0, c0⟩, ⟨P1, q1, c1⟩, ⟨P2, q2, c2⟩, ⟨P3, q3, c3⟩] = q := by rw [HQ.out]; unfold flat; simp
    rw [e] at h; exact h
  refine wpAnyH_ready (rs := [11]) (by kernel_rfl) (by simp) ?_
  refine AllReadyH.cons (o := ⟨some 23, _, _, _, _, _⟩) rfl (fun K hK => ?_) AllReadyH.nil
  go_simp
  refine (HC4.out _ rfl).mono ?_
  rintro e u5 ⟨v5, rfl, h5, bx⟩
  have HU5 : Hid (Below w1.heap.size w1 u5) := hHeld.trans (bx.mono hHeld.size)
  have HO5 := Lib.hid (own_base h5 hHeld.size)
  clear h5 bx
  go_simp
  refine hK.out _ _ (HU5.out) (fun hHeld => ?_)
  clear hK K
  try simp only [Act.put, List.setIfInBounds_toArray, List.set_cons_zero, List.set_cons_succ]
  refine wpAnyH_take (i := 12) (oi := ⟨some 2, _, _, _, _, _⟩) (v := ?_) rfl (by kernel_rfl) (by kernel_rfl) (by kernel_rfl) (fun _ _ _ h => h) (Or.inl ⟨by rfl, ?_⟩) (by assumption) ?_
  rotate_left
  · intro w hSw; go_simp; first | done | with_reducible rfl
  try simp only [Act.put, List.setIfInBounds_toArray, List.set_cons_zero, List.set_cons_succ]
  refine wpAnyH_done (by kernel_rfl) ?_ _
  refine NoPanic.normal ?_
  go_wp2_with fail
  go_ret
  exact ⟨_, rfl, own_base HO5.out (by have := HB.out.size; have := HB1.out.size; omega), (HB.out.trans (HB1.out.mono HB.out.size)).trans (HU5.out.mono (by have := HB.out.size; have := HB1.out.size; omega))⟩
end Go.Proofs.YthlfahblnpijaaaDoor.Sx
namespace Go.Proofs.YthlfahblnpijaaaDoor.Sx
open Go.RowKit Vm Ap Vw Va Vab Gc Mi Mb Qm Sm Se So Sb Sw Sc Fc

/-- What the law on an item asks. -/
structure OkW (w : World) (y : Im) : Prop where
  rd : Rb w y.A y.i.value
  non : y.A = none → y.k = 0
  m0 : 0 ≤ y.i.mark
  m1 : y.i.mark ≤ 9223372036854775807
  len : y.i.value.length ≤ 1000000
  ver : y.i.version < big
  dead : y.i.dead < big
theorem OkW.below {w w' : World} {y : Im} (h : OkW w y) {B : Nat} (hb : Below B w w') (hB : w.heap.size ≤ B) : OkW w' y := ⟨h.rd.below hb hB, h.non, h.m0, h.m1, h.len, h.ver, h.dead⟩
theorem OkW.le {w : World} {y : Im} (h : OkW w y) : (encI y.i).length ≤ 1000040 := encI_le h.m1 h.len (by have := h.ver; unfold big at this; omega) (by have := h.dead; unfold big at this; omega)
def encL (l : List Im) (k : Nat) : Bs := (l.take k).flatMap (fun y => encI y.i)
theorem encL_succ (l : List Im) {k : Nat} (h : k < l.length) : encL l (k + 1) = encL l k ++ encI l[k].i := by
  unfold encL; rw [List.take_succ_eq_append_getElem h, List.flatMap_append]; simp
theorem encL_le {w : World} {l : List Im} (h : ∀ y ∈ l, OkW w y) : ∀ k, k ≤ l.length → (encL l k).length ≤ k * 1000040
  | 0, _ => by unfold encL; simp
  | k + 1, hk => by
    have ih := encL_le h k (by omega)
    have he := (h _ (List.getElem_mem (show k < l.length by omega))).le
    rw [encL_succ l (by omega), List.length_append]; omega
theorem encL_all (l : List Im) : encL l l.length = (l.map (·.i)).flatMap encI := by unfold encL; rw [List.take_length, List.flatMap_map]
def encM (l : List Nat) (k : Nat) : Bs := (l.take k).flatMap encN
theorem encM_succ (l : List Nat) {k : Nat} (h : k < l.length) : encM l (k + 1) = encM l k ++ encN l[k] := by
  unfold encM; rw [List.take_succ_eq_append_getElem h, List.flatMap_append]; simp
theorem encM_le {l : List Nat} (h : ∀ n ∈ l, n < big) : ∀ k, k ≤ l.length → (encM l k).length ≤ k * 10
  | 0, _ => by unfold encM; simp
  | k + 1, hk => by
    have ih := encM_le h k (by omega)
    have he := enc_le l[k] (h _ (List.getElem_mem (show k < l.length by omega)))
    rw [encM_succ l (by omega), List.length_append]; omega
theorem encM_all (l : List Nat) : encM l l.length = l.flatMap encN := by unfold encM; rw [List.take_length]
theorem pco_one {B : Nat} {w : World} {P : Option Addr} {b : Bs} {c : Nat} (h : Sh B w (.slice P b.length c) b P c) : PcO w.heap.size (w.alloc (.cells #[.slice P b.length c] 29)) (some ⟨w.heap.size, 0, none⟩) 1 [⟨P, b, c⟩] :=
  PcO.lit w ⟨P, b, c⟩ h.rd h.non (fun a ha => (h.base a ha).2)
set_option maxRecDepth 100000 in
set_option maxHeartbeats 8000000 in
theorem putLI_any (A : Option Addr) (l : List Im) (c : Nat) (w : World) (hA : RIs w A l) (hl : l.length ≤ 40) (hEach : ∀ y ∈ l, OkW w y) :
    Calls Tryd.prog 69 #[.slice A l.length c, .func (.func 65) #[] #[]] w (bytesPost w (encN l.length ++ encL l l.length)) := by
  have HRA := Lib.hid hA
  have HN := Lib.hid (fun W => putN_any l.length W (by unfold big; omega))
  have hb0 := enc_le l.length (by unfold big; omega)
  have HLE := Lib.hid (fun k h => encL_le hEach k h)
  have HSU := Lib.hid (fun k h => encL_succ l (k := k) h)
  have HEL := Lib.hid hEach
  obtain ⟨q0, hq0⟩ : ∃ q, q = encN l.length := ⟨_, rfl⟩
  rw [← hq0] at HN hb0 ⊢
  clear hq0 hA hEach
  go_enter Tryd.func69, Tryd.ntmps69
  go_wp2_with fail
  refine (HN.out _).mono ?_
  rintro e w1 ⟨v1, rfl, h1, b1⟩
  obtain ⟨P0, c0, s0⟩ := own_shape h1
  obtain rfl := s0.val
  have HP1 := Lib.hid (pco_one s0)
  have HB1 := Lib.hid b1
  obtain ⟨K, hK⟩ : ∃ K, K = w1.heap.size := ⟨_, rfl⟩
  obtain ⟨w2, hw2⟩ : ∃ w2, w2 = w1.alloc (.cells #[.slice P0 q0.length c0] 29) := ⟨_, rfl⟩
  have HB2 : Hid (Below w.heap.size w w2) := by show Below _ _ _; rw [hw2]; exact b1.alloc b1.size _
  have hK2 : K ≤ w2.heap.size := by rw [hw2, hK]; simp
  have HWK : Hid (w.heap.size ≤ K) := by show _ ≤ _; rw [hK]; exact b1.size
  rw [← hw2, ← hK] at HP1
  clear h1 s0 b1
  go_upto_region 2 with fail
  rw [← hw2, ← hK]
  clear hw2 hK
  go_wp2_with fail
  go_loopw [5, 15] (fun u i wr => ∃ (k : Nat) (Z : Option Addr) (zc : Nat) (ls : List Sl), k ≤ l.length ∧ i = .int .i64 (k : Int) ∧ u = .slice Z ls.length zc ∧ PcO K wr Z zc ls ∧ flat ls = q0 ++ encL l k ∧ ls.length = k + 1 ∧ Below w.heap.size w wr ∧ K ≤ wr.heap.size) (fun _ i _ => l.length - (intOf i).toNat)
  case atStart => exact ⟨0, _, 1, [⟨P0, q0, c0⟩], Nat.zero_le _, rfl, rfl, HP1.out, by unfold flat encL; simp, rfl, HB2.out, hK2⟩
  case round =>
    obtain ⟨k, Z, zc, ls, hkl, rfl, rfl, hp, hf, hll, hbw, hkw⟩ := hrel
    obtain ⟨wo, rfl⟩ : ∃ wo : World, wo = wr := ⟨_, rfl⟩
    have HP := Lib.hid hp; have HF := Lib.hid hf; have HBW := Lib.hid hbw; have HKW := Lib.hid hkw
    clear hp hf hbw hkw
    by_cases hlt : k < l.length
    · have i1 : (k : Int) < l.length := by omega
      have HS1 := Lib.hid (HSU.out k hlt)
      have hle1 := HLE.out (k + 1) (by omega)
      have RA := Lib.hid (HRA.out.below HBW.out (Nat.le_refl _))
      obtain ⟨p1, o1, rfl, l1, c10, c11, c12, c13⟩ := RA.out.ri.at_ hlt
      have HOK := Lib.hid ((HEL.out _ (List.getElem_mem hlt)).below HBW.out (Nat.le_refl _))
      obtain ⟨y, hy⟩ : ∃ y, y = l[k] := ⟨_, rfl⟩
      rw [← hy] at c10 c11 c12 c13 HOK HS1
      obtain ⟨w4, hw4⟩ : ∃ w4, w4 = wo.alloc (imO y) := ⟨_, rfl⟩
      have b4 : Below wo.heap.size wo w4 := by rw [hw4]; exact alloc_below _ _
      obtain ⟨D, hD⟩ : ∃ D, D = wo.heap.size := ⟨_, rfl⟩
      have bA : BoxI w4 D y := by rw [hw4, hD]; exact BoxI.new wo y
      obtain ⟨a0, a1, a2, a3, _⟩ := bA
      have HO4 := Lib.hid (HOK.out.below b4 (Nat.le_refl _))
      have HPI := Lib.hid (putI_any y w4 HO4.out.rd HO4.out.non HO4.out.m0 HO4.out.m1 HO4.out.len HO4.out.ver HO4.out.dead)
      have hyl := HO4.out.le
      have HB4 := Lib.hid (HBW.out.trans (b4.mono HBW.out.size))
      have HP4 := Lib.hid (HP.out.below b4 (Nat.le_refl _))
      have hz4 : K ≤ w4.heap.size := Nat.le_trans HKW.out b4.size
      obtain ⟨ev, hev⟩ : ∃ ev, ev = encI y.i := ⟨_, rfl⟩
      rw [← hev] at HPI HS1 hyl
      unfold imV at HPI
      unfold imO at hw4
      clear hy b4 hev HOK HO4 HP
      go_upto_region 5 with fail
      rw [← hw4, ← hD]
      clear hw4 hD c10 c11 c12 c13 l1
      go_wp2_with fail
      with_reducible refine HPI.out.mono ?_
      rintro e w5 ⟨v5, rfl, h5, b5⟩
      obtain ⟨P5, c5, s5⟩ := own_shape h5
      obtain rfl := s5.val
      have HB5 := Lib.hid (HB4.out.trans (b5.mono HB4.out.size))
      have HP5 := Lib.hid (HP4.out.below b5 (Nat.le_refl _))
      have HPAY : Hid (Rb w5 P5 ev ∧ (P5 = none → c5 = 0) ∧ ∀ a, P5 = some a → a.block < w5.heap.size ∧ ∀ b, Z = some b → a.block ≠ b.block) := ⟨s5.rd, s5.non, fun a ha => ⟨(s5.base a ha).2, fun b hb e => by
        have h1 := (HP4.out.mi.base hb).2.1; have h2 := (s5.base a ha).1; omega⟩⟩
      have hz5 : K ≤ w5.heap.size := Nat.le_trans hz4 b5.size
      clear h5 b5 s5 HP4 a0 a1 a2 a3
      go_wp2_with (at_builtin; (refine wpList_piece rfl _ _ rfl hll rfl HP5.out ⟨P5, ev, c5⟩ rfl rfl HPAY.out (by omega) hz5 rfl ?_))
      intro Z6 zc6 w6 ls6 HLS HP6 b6 _
      have HB6 := Lib.hid (HB5.out.trans (b6.mono HWK.out))
      have HPP := Lib.hid HP6
      have hz6 : K ≤ w6.heap.size := Nat.le_trans hz5 b6.size
      have HLL : Hid (ls6.length = k + 1 + 1) := by show _ = _; rw [HLS.out, List.length_append, hll]; rfl
      have HFF : Hid (flat ls6 = q0 ++ encL l (k + 1)) := by show _ = _; rw [HLS.out, flat_snoc, HF.out, HS1.out, List.append_assoc]
      clear HP6 b6
      go_wp2_with fail
      go_roundw
      case rel => exact ⟨k + 1, Z6, zc6, ls6, by omega, by go_num, rfl, HPP.out, HFF.out, HLL.out, HB6.out, hz6⟩
      case measure => simp [intOf]; omega
    · obtain rfl : k = l.length := by omega
      have hnn : ¬ (l.length : Int) < l.length := by omega
      have hle := HLE.out l.length (Nat.le_refl _)
      have HC := Lib.hid (concat_any Z ls zc wo HP.out.rs HP.out.each (by rw [HF.out, List.length_append]; omega) (by omega))
      rw [HF.out, hll] at HC
      go_wp2_with fail
      with_reducible refine HC.out.mono ?_
      rintro e w7 ⟨v7, rfl, h7, b7⟩
      have HO7 := Lib.hid (own_base h7 HBW.out.size)
      have HB7 := Lib.hid (HBW.out.trans (b7.mono HBW.out.size))
      clear h7 b7
      go_wp2_with fail
      go_ret
      exact ⟨_, rfl, HO7.out, HB7.out⟩
set_option maxRecDepth 100000 in
set_option maxHeartbeats 8000000 in
theorem putLN_any (A : Option Addr) (l : List Nat) (c : Nat) (w : World) (hA : RN w A l) (hl : l.length ≤ 1000) (hEach : ∀ n ∈ l, n < big) :
    Calls Tryd.prog 73 #[.slice A l.length c, .func (.func 14) #[] #[]] w (bytesPost w (encN l.length ++ encM l l.length)) := by
  have HRA := Lib.hid hA
  have HN := Lib.hid (fun W => putN_any l.length W (by unfold big; omega))
  have hb0 := enc_le l.length (by unfold big; omega)
  have HLE := Lib.hid (fun k h => encM_le hEach k h)
  have HSU := Lib.hid (fun k h => encM_succ l (k := k) h)
  have HEL := Lib.hid hEach
  obtain ⟨q0, hq0⟩ : ∃ q, q = encN l.length := ⟨_, rfl⟩
  rw [← hq0] at HN hb0 ⊢
  clear hq0 hA hEach
  go_enter Tryd.func73, Tryd.ntmps73
  go_wp2_with fail
  refine (HN.out _).mono ?_
  rintro e w1 ⟨v1, rfl, h1, b1⟩
  obtain ⟨P0, c0, s0⟩ := own_shape h1
  obtain rfl := s0.val
  have HP1 := Lib.hid (pco_one s0)
  have HB1 := Lib.hid b1
  obtain ⟨K, hK⟩ : ∃ K, K = w1.heap.size := ⟨_, rfl⟩
  obtain ⟨w2, hw2⟩ : ∃ w2, w2 = w1.alloc (.cells #[.slice P0 q0.length c0] 29) := ⟨_, rfl⟩
  have HB2 : Hid (Below w.heap.size w w2) := by show Below _ _ _; rw [hw2]; exact b1.alloc b1.size _
  have hK2 : K ≤ w2.heap.size := by rw [hw2, hK]; simp
  have HWK : Hid (w.heap.size ≤ K) := by show _ ≤ _; rw [hK]; exact b1.size
  rw [← hw2, ← hK] at HP1
  clear h1 s0 b1
  go_upto_region 2 with fail
  rw [← hw2, ← hK]
  clear hw2 hK
  go_wp2_with fail
  go_loopw [5, 15] (fun u i wr => ∃ (k : Nat) (Z : Option Addr) (zc : Nat) (ls : List Sl), k ≤ l.length ∧ i = .int .i64 (k : Int) ∧ u = .slice Z ls.length zc ∧ PcO K wr Z zc ls ∧ flat ls = q0 ++ encM l k ∧ ls.length = k + 1 ∧ Below w.heap.size w wr ∧ K ≤ wr.heap.size) (fun _ i _ => l.length - (intOf i).toNat)
  case atStart => exact ⟨0, _, 1, [⟨P0, q0, c0⟩], Nat.zero_le _, rfl, rfl, HP1.out, by unfold flat encM; simp, rfl, HB2.out, hK2⟩
  case round =>
    obtain ⟨k, Z, zc, ls, hkl, rfl, rfl, hp, hf, hll, hbw, hkw⟩ := hrel
    obtain ⟨wo, rfl⟩ : ∃ wo : World, wo = wr := ⟨_, rfl⟩
    have HP := Lib.hid hp; have HF := Lib.hid hf; have HBW := Lib.hid hbw; have HKW := Lib.hid hkw
    clear hp hf hbw hkw
    by_cases hlt : k < l.length
    · have i1 : (k : Int) < l.length := by omega
      have HS1 := Lib.hid (HSU.out k hlt)
      have hle1 := HLE.out (k + 1) (by omega)
      have RA := Lib.hid (HRA.out.below HBW.out (Nat.le_refl _))
      obtain ⟨p1, o1, rfl, l1, c10⟩ := RA.out.at_ hlt
      have hnb := HEL.out _ (List.getElem_mem hlt)
      obtain ⟨y, hy⟩ : ∃ y, y = l[k] := ⟨_, rfl⟩
      rw [← hy] at c10 hnb HS1
      have HPI := Lib.hid (fun W => putN_any y W hnb)
      have hyl := enc_le y hnb
      have HB4 := Lib.hid HBW.out
      have HP4 := Lib.hid HP.out
      have hz4 : K ≤ wo.heap.size := HKW.out
      obtain ⟨w4, rfl⟩ : ∃ q : World, q = wo := ⟨_, rfl⟩
      obtain ⟨ev, hev⟩ : ∃ ev, ev = encN y := ⟨_, rfl⟩
      rw [← hev] at HPI HS1 hyl
      clear hy hev hnb HP
      go_wp2_with fail
      with_reducible refine (HPI.out _).mono ?_
      rintro e w5 ⟨v5, rfl, h5, b5⟩
      clear c10
      obtain ⟨P5, c5, s5⟩ := own_shape h5
      obtain rfl := s5.val
      have HB5 := Lib.hid (HB4.out.trans (b5.mono HB4.out.size))
      have HP5 := Lib.hid (HP4.out.below b5 (Nat.le_refl _))
      have HPAY : Hid (Rb w5 P5 ev ∧ (P5 = none → c5 = 0) ∧ ∀ a, P5 = some a → a.block < w5.heap.size ∧ ∀ b, Z = some b → a.block ≠ b.block) := ⟨s5.rd, s5.non, fun a ha => ⟨(s5.base a ha).2, fun b hb e => by
        have h1 := (HP4.out.mi.base hb).2.1; have h2 := (s5.base a ha).1; omega⟩⟩
      have hz5 : K ≤ w5.heap.size := Nat.le_trans hz4 b5.size
      clear h5 b5 s5 HP4
      go_wp2_with (at_builtin; (refine wpList_piece rfl _ _ rfl hll rfl HP5.out ⟨P5, ev, c5⟩ rfl rfl HPAY.out (by omega) hz5 rfl ?_))
      intro Z6 zc6 w6 ls6 HLS HP6 b6 _
      have HB6 := Lib.hid (HB5.out.trans (b6.mono HWK.out))
      have HPP := Lib.hid HP6
      have hz6 : K ≤ w6.heap.size := Nat.le_trans hz5 b6.size
      have HLL : Hid (ls6.length = k + 1 + 1) := by show _ = _; rw [HLS.out, List.length_append, hll]; rfl
      have HFF : Hid (flat ls6 = q0 ++ encM l (k + 1)) := by show _ = _; rw [HLS.out, flat_snoc, HF.out, HS1.out, List.append_assoc]
      clear HP6 b6
      go_wp2_with fail
      go_roundw
      case rel => exact ⟨k + 1, Z6, zc6, ls6, by omega, by go_num, rfl, HPP.out, HFF.out, HLL.out, HB6.out, hz6⟩
      case measure => simp [intOf]; omega
    · obtain rfl : k = l.length := by omega
      have hnn : ¬ (l.length : Int) < l.length := by omega
      have hle := HLE.out l.length (Nat.le_refl _)
      have HC := Lib.hid (concat_any Z ls zc wo HP.out.rs HP.out.each (by rw [HF.out, List.length_append]; omega) (by omega))
      rw [HF.out, hll] at HC
      go_wp2_with fail
      with_reducible refine HC.out.mono ?_
      rintro e w7 ⟨v7, rfl, h7, b7⟩
      have HO7 := Lib.hid (own_base h7 HBW.out.size)
      have HB7 := Lib.hid (HBW.out.trans (b7.mono HBW.out.size))
      clear h7 b7
      go_wp2_with fail
      go_ret
      exact ⟨_, rfl, HO7.out, HB7.out⟩
/-- The bytes of a part. -/
def encK (x : Rsp) (k : Nat) : Bs := match k with | 0 => encN x.version | 1 => encN x.count.toNat | 2 => (match x.items with | [] => [] | y :: _ => encI y) | 3 => encN x.items.length ++ x.items.flatMap encI | _ => encN x.numbers.length ++ x.numbers.flatMap encN
theorem encK2 {x : Res} (h : 0 < x.items.length) : encK x.r 2 = encI x.items[0].i := by
  obtain ⟨op, err, items, IA, ik, version, count, numbers, NA, nk⟩ := x
  cases items with
  | nil => simp at h
  | cons z zs => rfl
/-- What writing asks of a response. -/
structure WrS (w : World) (x : Res) : Prop where
  rc : RRc w x
  bnd : BndS x
  i40 : x.items.length ≤ 40
  c0 : 0 ≤ x.count
  m0 : ∀ y ∈ x.items, 0 ≤ y.i.mark
theorem WrS.below {w w' : World} {x : Res} (h : WrS w x) {B : Nat} (hb : Below B w w') (hB : w.heap.size ≤ B) : WrS w' x := ⟨h.rc.below hb hB, h.bnd, h.i40, h.c0, h.m0⟩
theorem WrS.each {w : World} {x : Res} (h : WrS w x) : ∀ y ∈ x.items, OkW w y := fun y hy => by
  have := h.bnd.each y hy
  exact ⟨h.rc.rv y hy, h.rc.nv y hy, h.m0 y hy, this.1.2, this.2.1, by unfold big; exact this.2.2.1, by unfold big; exact this.2.2.2⟩
theorem encK_le {w : World} {x : Res} (h : WrS w x) (k : Nat) : (encK x.r k).length ≤ 41000000 := by
  have hb := h.bnd
  have e1 := hb.items; have e2 := hb.numbers; have e3 := hb.count2; have e4 := hb.version
  unfold encK
  split
  · have := enc_le x.version (by unfold big; omega); show (encN x.version).length ≤ _; omega
  · have := enc_le x.count.toNat (by unfold big; omega); show (encN x.count.toNat).length ≤ _; omega
  · split
    · simp
    · rename_i y ys hi
      have hi' : x.items.map (·.i) = y :: ys := hi
      cases hx : x.items with
      | nil => rw [hx] at hi'; cases hi'
      | cons z zs =>
        rw [hx] at hi'
        simp only [List.map_cons, List.cons.injEq] at hi'
        have := (h.each z (by rw [hx]; simp)).le
        rw [← hi'.1]; omega
  · have h1 := encL_le h.each x.items.length (Nat.le_refl _)
    rw [encL_all] at h1
    have h2 := enc_le x.items.length (by unfold big; omega)
    have h40 := h.i40
    show (encN (x.items.map (·.i)).length ++ (x.items.map (·.i)).flatMap encI).length ≤ _
    rw [List.length_append, List.length_map]; omega
  · have h1 := encM_le (l := x.numbers) (fun n hn => by have := hb.nums n hn; unfold big; exact this) x.numbers.length (Nat.le_refl _)
    rw [encM_all] at h1
    have h2 := enc_le x.numbers.length (by unfold big; omega)
    show (encN x.numbers.length ++ x.numbers.flatMap encN).length ≤ _
    rw [List.length_append]; omega
set_option maxRecDepth 100000 in
set_option maxHeartbeats 4000000 in
theorem clo0_any (x : Res) (w : World) (h : WrS w x) : Calls Tryd.prog 60 #[resV x] w (bytesPost w (encK x.r 0)) := by
  unfold resV
  obtain ⟨C, hC⟩ : ∃ C, C = w.heap.size := ⟨_, rfl⟩
  obtain ⟨w0, hw0⟩ : ∃ w0, w0 = w.alloc (resO x) := ⟨_, rfl⟩
  have HB : Hid (Below w.heap.size w w0) := by show Below _ _ _; rw [hw0]; exact alloc_below _ _
  have HBX : Hid (BoxS w0 C x) := by show BoxS _ _ _; rw [hw0, hC]; exact BoxS.new w x
  have hw := h.below HB.out (Nat.le_refl _)
  obtain ⟨a0, a1, a2, a3, a4, a5, _⟩ := HBX.out
  have HQ : Hid (Calls Tryd.prog 14 #[.int .u64 (x.version : Int)] w0 (bytesPost w0 (encK x.r 0))) := putN_any x.version w0 (by have := h.bnd.version; unfold big; omega)
  generalize encK x.r 0 = q at *
  unfold resO at hw0
  clear h hw
  go_enter Tryd.func60, Tryd.ntmps60
  go_upto_region 1 with fail
  rw [← hw0, ← hC]
  clear hw0 hC
  go_wp2_with fail
  refine HQ.out.mono ?_
  rintro e w1 ⟨v1, rfl, h1', b1⟩
  have HO := Lib.hid (own_base h1' HB.out.size)
  have HB1 := Lib.hid (HB.out.trans (b1.mono HB.out.size))
  clear h1' b1
  go_wp2_with fail
  go_ret
  exact ⟨_, rfl, HO.out, HB1.out⟩
set_option maxRecDepth 100000 in
set_option maxHeartbeats 4000000 in
theorem clo1_any (x : Res) (w : World) (h : WrS w x) : Calls Tryd.prog 62 #[resV x] w (bytesPost w (encK x.r 1)) := by
  unfold resV
  obtain ⟨C, hC⟩ : ∃ C, C = w.heap.size := ⟨_, rfl⟩
  obtain ⟨w0, hw0⟩ : ∃ w0, w0 = w.alloc (resO x) := ⟨_, rfl⟩
  have HB : Hid (Below w.heap.size w w0) := by show Below _ _ _; rw [hw0]; exact alloc_below _ _
  have HBX : Hid (BoxS w0 C x) := by show BoxS _ _ _; rw [hw0, hC]; exact BoxS.new w x
  have hw := h.below HB.out (Nat.le_refl _)
  obtain ⟨a0, a1, a2, a3, a4, a5, _⟩ := HBX.out
  have hcb := h.bnd.count2; have hc0 := h.c0
  have HQ : Hid (Calls Tryd.prog 14 #[.int .u64 x.count] w0 (bytesPost w0 (encK x.r 1))) := putN_at w0 h.c0 (by omega)
  generalize encK x.r 1 = q at *
  unfold resO at hw0
  clear h hw
  go_enter Tryd.func62, Tryd.ntmps62
  go_upto_region 1 with fail
  rw [← hw0, ← hC]
  clear hw0 hC
  go_wp2_with fail
  refine HQ.out.mono ?_
  rintro e w1 ⟨v1, rfl, h1', b1⟩
  have HO := Lib.hid (own_base h1' HB.out.size)
  have HB1 := Lib.hid (HB.out.trans (b1.mono HB.out.size))
  clear h1' b1
  go_wp2_with fail
  go_ret
  exact ⟨_, rfl, HO.out, HB1.out⟩
set_option maxRecDepth 100000 in
set_option maxHeartbeats 4000000 in
theorem clo2_any (x : Res) (w : World) (h : WrS w x) (h1 : 1 ≤ x.items.length) : Calls Tryd.prog 64 #[resV x] w (bytesPost w (encK x.r 2)) := by
  unfold resV
  obtain ⟨C, hC⟩ : ∃ C, C = w.heap.size := ⟨_, rfl⟩
  obtain ⟨w0, hw0⟩ : ∃ w0, w0 = w.alloc (resO x) := ⟨_, rfl⟩
  have HB : Hid (Below w.heap.size w w0) := by show Below _ _ _; rw [hw0]; exact alloc_below _ _
  have HBX : Hid (BoxS w0 C x) := by show BoxS _ _ _; rw [hw0, hC]; exact BoxS.new w x
  have hw := h.below HB.out (Nat.le_refl _)
  obtain ⟨a0, a1, a2, a3, a4, a5, _⟩ := HBX.out
  have i0 : 0 < x.items.length := by omega
  have i1 : (0 : Int) < x.items.length := by omega
  obtain ⟨p1, o1, ep, l1, c10, c11, c12, c13⟩ := hw.rc.ri.at_ i0
  have hok := hw.each _ (List.getElem_mem i0)
  have he := encK2 i0
  rw [he]
  obtain ⟨y, hy⟩ : ∃ y, y = x.items[0] := ⟨_, rfl⟩
  rw [← hy] at c10 c11 c12 c13 hok ⊢
  have HQ : Hid (Calls Tryd.prog 65 #[imV y] w0 (bytesPost w0 (encI y.i))) := putI_any y w0 hok.rd hok.non hok.m0 hok.m1 hok.len hok.ver hok.dead
  unfold imV at HQ
  simp only [Nat.zero_mul, Nat.add_zero] at c10 c11 c12 c13
  rw [ep] at a2
  clear hy hok he ep
  generalize encI y.i = q at *
  unfold resO at hw0
  clear h hw
  go_enter Tryd.func64, Tryd.ntmps64
  go_upto_region 1 with fail
  rw [← hw0, ← hC]
  clear hw0 hC
  go_wp2_with fail
  refine HQ.out.mono ?_
  rintro e w1 ⟨v1, rfl, h1', b1⟩
  have HO := Lib.hid (own_base h1' HB.out.size)
  have HB1 := Lib.hid (HB.out.trans (b1.mono HB.out.size))
  clear h1' b1
  go_wp2_with fail
  go_ret
  exact ⟨_, rfl, HO.out, HB1.out⟩
set_option maxRecDepth 100000 in
set_option maxHeartbeats 4000000 in
theorem clo3_any (x : Res) (w : World) (h : WrS w x) : Calls Tryd.prog 68 #[resV x] w (bytesPost w (encK x.r 3)) := by
  unfold resV
  obtain ⟨C, hC⟩ : ∃ C, C = w.heap.size := ⟨_, rfl⟩
  obtain ⟨w0, hw0⟩ : ∃ w0, w0 = w.alloc (resO x) := ⟨_, rfl⟩
  have HB : Hid (Below w.heap.size w w0) := by show Below _ _ _; rw [hw0]; exact alloc_below _ _
  have HBX : Hid (BoxS w0 C x) := by show BoxS _ _ _; rw [hw0, hC]; exact BoxS.new w x
  have hw := h.below HB.out (Nat.le_refl _)
  obtain ⟨a0, a1, a2, a3, a4, a5, _⟩ := HBX.out
  have HQ : Hid (Calls Tryd.prog 69 #[.slice x.IA x.items.length x.ik, .func (.func 65) #[] #[]] w0 (bytesPost w0 (encK x.r 3))) := by
    have hq := putLI_any x.IA x.items x.ik w0 ⟨hw.rc.ri, hw.rc.rv⟩ hw.i40 hw.each
    have e : encK x.r 3 = encN x.items.length ++ encL x.items x.items.length := by rw [encL_all]; unfold encK Res.r; simp
    rw [e]; exact hq
  generalize encK x.r 3 = q at *
  unfold resO at hw0
  clear h hw
  go_enter Tryd.func68, Tryd.ntmps68
  go_upto_region 1 with fail
  rw [← hw0, ← hC]
  clear hw0 hC
  go_wp2_with fail
  refine HQ.out.mono ?_
  rintro e w1 ⟨v1, rfl, h1', b1⟩
  have HO := Lib.hid (own_base h1' HB.out.size)
  have HB1 := Lib.hid (HB.out.trans (b1.mono HB.out.size))
  clear h1' b1
  go_wp2_with fail
  go_ret
  exact ⟨_, rfl, HO.out, HB1.out⟩
set_option maxRecDepth 100000 in
set_option maxHeartbeats 4000000 in
theorem clo4_any (x : Res) (w : World) (h : WrS w x) : Calls Tryd.prog 72 #[resV x] w (bytesPost w (encK x.r 4)) := by
  unfold resV
  obtain ⟨C, hC⟩ : ∃ C, C = w.heap.size := ⟨_, rfl⟩
  obtain ⟨w0, hw0⟩ : ∃ w0, w0 = w.alloc (resO x) := ⟨_, rfl⟩
  have HB : Hid (Below w.heap.size w w0) := by show Below _ _ _; rw [hw0]; exact alloc_below _ _
  have HBX : Hid (BoxS w0 C x) := by show BoxS _ _ _; rw [hw0, hC]; exact BoxS.new w x
  have hw := h.below HB.out (Nat.le_refl _)
  obtain ⟨a0, a1, a2, a3, a4, a5, _⟩ := HBX.out
  have HQ : Hid (Calls Tryd.prog 73 #[.slice x.NA x.numbers.length x.nk, .func (.func 14) #[] #[]] w0 (bytesPost w0 (encK x.r 4))) := by
    have hq := putLN_any x.NA x.numbers x.nk w0 hw.rc.rn hw.bnd.numbers (fun n hn => by have := hw.bnd.nums n hn; unfold big; exact this)
    have e : encK x.r 4 = encN x.numbers.length ++ encM x.numbers x.numbers.length := by rw [encM_all]; rfl
    rw [e]; exact hq
  generalize encK x.r 4 = q at *
  unfold resO at hw0
  clear h hw
  go_enter Tryd.func72, Tryd.ntmps72
  go_upto_region 1 with fail
  rw [← hw0, ← hC]
  clear hw0 hC
  go_wp2_with fail
  refine HQ.out.mono ?_
  rintro e w1 ⟨v1, rfl, h1', b1⟩
  have HO := Lib.hid (own_base h1' HB.out.size)
  have HB1 := Lib.hid (HB.out.trans (b1.mono HB.out.size))
  clear h1' b1
  go_wp2_with fail
  go_ret
  exact ⟨_, rfl, HO.out, HB1.out⟩
end Go.Proofs.YthlfahblnpijaaaDoor.Sx
namespace Go.Proofs.YthlfahblnpijaaaDoor.Sx
open Go.RowKit Vm Ap Vw Va Vab Gc Mi Mb Qm Sm Se So Sb Sw Sc Sg Fc

theorem flatK_succ (x : Rsp) (ks : List Nat) {k : Nat} (h : k < ks.length) : (ks.take (k + 1)).flatMap (encK x) = (ks.take k).flatMap (encK x) ++ encK x ks[k] := by
  rw [List.take_succ_eq_append_getElem h, List.flatMap_append]; simp
theorem flatK_le {w : World} {x : Res} (h : WrS w x) (ks : List Nat) : ∀ k, k ≤ ks.length → ((ks.take k).flatMap (encK x.r)).length ≤ k * 41000000
  | 0, _ => by simp
  | k + 1, hk => by
    have ih := flatK_le h ks k (by omega)
    have := encK_le h ks[k]
    rw [flatK_succ x.r ks (by omega), List.length_append]; omega
set_option maxRecDepth 100000 in
set_option maxHeartbeats 8000000 in
theorem tog1_any (B : Nat) (g : Nat) (ks : List Nat) (x : Res) (w : World) (hp : PB B w g ks) (hx : WrS w x) (h2 : 2 ∈ ks → 1 ≤ x.items.length) (hk : ks.length ≤ 10) (h5 : ∀ k ∈ ks, k ≤ 4) :
    Calls Tryd.prog 48 #[resV x, .pointer (some ⟨g, 0, none⟩)] w (bytesPost w (ks.flatMap (encK x.r))) := by
  unfold resV
  obtain ⟨C, hC⟩ : ∃ C, C = w.heap.size := ⟨_, rfl⟩
  obtain ⟨w0, hw0⟩ : ∃ w0, w0 = w.alloc (resO x) := ⟨_, rfl⟩
  have HB : Hid (Below w.heap.size w w0) := by show Below _ _ _; rw [hw0]; exact alloc_below _ _
  have HBX : Hid (BoxS w0 C x) := by show BoxS _ _ _; rw [hw0, hC]; exact BoxS.new w x
  obtain ⟨Z0, zc0, hg0, hrp, _⟩ := hp.below HB.out (Nat.le_refl _)
  have HRP := Lib.hid hrp
  have HW0 := Lib.hid (hx.below HB.out (Nat.le_refl _))
  have HLE := Lib.hid (flatK_le hx ks)
  have HSU := Lib.hid (fun k h => flatK_succ x.r ks (k := k) h)
  have H2 := Lib.hid h2
  have H5 := Lib.hid h5
  have hgl := World.block_lt_of_cell? _ _ hg0
  simp only at hgl
  have HCL := Lib.hid HBX.out.lt
  unfold resO at hw0
  clear hp hx hrp h2 h5
  go_enter Tryd.func48, Tryd.ntmps48
  go_upto_region 1 with fail
  rw [← hw0, ← hC]
  clear hw0 hC
  go_wp2_with fail
  go_loopw [4, 9] (fun u i wr => ∃ (k : Nat) (Z : Option Addr) (zc : Nat) (ls : List Sl), k ≤ ks.length ∧ i = .int .i64 (k : Int) ∧ u = .slice Z ls.length zc ∧ PcO w0.heap.size wr Z zc ls ∧ flat ls = (ks.take k).flatMap (encK x.r) ∧ ls.length = k ∧ Below w0.heap.size w0 wr) (fun _ i _ => ks.length - (intOf i).toNat)
  case atStart => exact ⟨0, none, 0, [], Nat.zero_le _, rfl, rfl, PcO.nil _ _, rfl, rfl, Below.refl _ _⟩
  case round =>
    obtain ⟨k, Z, zc, ls, hkl, rfl, rfl, hp, hf, hll, hbw⟩ := hrel
    obtain ⟨wo, rfl⟩ : ∃ wo : World, wo = wr := ⟨_, rfl⟩
    have HP := Lib.hid hp; have HF := Lib.hid hf; have HBW := Lib.hid hbw
    clear hp hf hbw
    by_cases hlt : k < ks.length
    · have i1 : (k : Int) < ks.length := by omega
      have HS1 := Lib.hid (HSU.out k hlt)
      have hle1 := HLE.out (k + 1) (by omega)
      obtain ⟨p1, o1, rfl, l1, c0, c1, c2⟩ := (HRP.out.below HBW.out (Nat.le_refl _)).at_ hlt
      have hq5 := H5.out _ (List.getElem_mem hlt)
      have H22 : Hid (ks[k] = 2 → 1 ≤ x.items.length) := fun e => H2.out (by rw [← e]; exact List.getElem_mem hlt)
      obtain ⟨q, hq⟩ : ∃ q, q = ks[k] := ⟨_, rfl⟩
      rw [← hq] at c0 c1 c2 hq5 H22 HS1
      clear hq
      obtain ⟨f1, hf1⟩ := wf_func q
      obtain ⟨f2, hf2⟩ := rf_func q
      have HF1 := Lib.hid hf1
      rw [hf1] at c1
      rw [hf2] at c2
      clear hf1 hf2
      obtain ⟨w4, hw4⟩ : ∃ w4, w4 = wo.alloc (.cells #[.int .u64 (nmK q : Int), .func f1 #[] #[], .func f2 #[] #[]] 59) := ⟨_, rfl⟩
      have b4 : Below wo.heap.size wo w4 := by rw [hw4]; exact alloc_below _ _
      obtain ⟨D, hD⟩ : ∃ D, D = wo.heap.size := ⟨_, rfl⟩
      have bA : Cel3 w4 D (.int .u64 (nmK q : Int)) (.func f1 #[] #[]) (.func f2 #[] #[]) := by rw [hw4, hD]; exact Cel3.new wo _ _ _ _
      obtain ⟨d0, d1, d2, _, _, _⟩ := bA
      have HB4 : Hid (Below w0.heap.size w0 w4) := HBW.out.trans (b4.mono HBW.out.size)
      have HP4 := Lib.hid (HP.out.below b4 (Nat.le_refl _))
      have HW4 := Lib.hid (HW0.out.below HB4.out (Nat.le_refl _))
      obtain ⟨a0, a1, a2, a3, a4, a5, _⟩ := HBX.out.below HB4.out (Nat.le_refl _)
      have hbe := encK_le HW4.out q
      clear b4 HP
      go_upto_region 5 with fail
      rw [← hw4, ← hD]
      clear hw4 hD c0 c1 c2 l1
      have hz4 := HB4.out.size
      obtain ⟨ev, hev⟩ : ∃ ev, ev = encK x.r q := ⟨_, rfl⟩
      rw [← hev] at HS1 hbe
      have HEV := Lib.hid hev
      clear hev
      have hqq : q = 0 ∨ q = 1 ∨ q = 2 ∨ q = 3 ∨ q = 4 := by omega
      rcases hqq with rfl | rfl | rfl | rfl | rfl
      case' inl =>
        have e1 := HF1.out
        injection e1 with e1
        subst e1
        have HCL2 : Hid (Calls Tryd.prog 60 #[resV x] w4 (bytesPost w4 ev)) := by show Calls _ _ _ _ _; rw [HEV.out]; exact clo0_any x w4 HW4.out
      case' inr.inl =>
        have e1 := HF1.out
        injection e1 with e1
        subst e1
        have HCL2 : Hid (Calls Tryd.prog 62 #[resV x] w4 (bytesPost w4 ev)) := by show Calls _ _ _ _ _; rw [HEV.out]; exact clo1_any x w4 HW4.out
      case' inr.inr.inl =>
        have e1 := HF1.out
        injection e1 with e1
        subst e1
        have HCL2 : Hid (Calls Tryd.prog 64 #[resV x] w4 (bytesPost w4 ev)) := by show Calls _ _ _ _ _; rw [HEV.out]; exact clo2_any x w4 HW4.out (H22.out rfl)
      case' inr.inr.inr.inl =>
        have e1 := HF1.out
        injection e1 with e1
        subst e1
        have HCL2 : Hid (Calls Tryd.prog 68 #[resV x] w4 (bytesPost w4 ev)) := by show Calls _ _ _ _ _; rw [HEV.out]; exact clo3_any x w4 HW4.out
      case' inr.inr.inr.inr =>
        have e1 := HF1.out
        injection e1 with e1
        subst e1
        have HCL2 : Hid (Calls Tryd.prog 72 #[resV x] w4 (bytesPost w4 ev)) := by show Calls _ _ _ _ _; rw [HEV.out]; exact clo4_any x w4 HW4.out
      all_goals
       unfold resV at HCL2
       clear HF1 HEV
       go_wp2_with fail
       with_reducible refine HCL2.out.mono ?_
       rintro e w5 ⟨v5, rfl, h5, b5⟩
       obtain ⟨P5, c5, s5⟩ := own_shape h5
       obtain rfl := s5.val
       have HB5 := Lib.hid (HB4.out.trans (b5.mono HB4.out.size))
       have HP5 := Lib.hid (HP4.out.below b5 (Nat.le_refl _))
       have HPAY : Hid (Rb w5 P5 ev ∧ (P5 = none → c5 = 0) ∧ ∀ a, P5 = some a → a.block < w5.heap.size ∧ ∀ b, Z = some b → a.block ≠ b.block) := ⟨s5.rd, s5.non, fun a ha => ⟨(s5.base a ha).2, fun b hb e => by
         have h1 := (HP4.out.mi.base hb).2.1; have h2 := (s5.base a ha).1; omega⟩⟩
       have hz5 : w0.heap.size ≤ w5.heap.size := HB5.out.size
       clear h5 b5 s5 HP4 a0 a1 a2 a3 a4 a5 d0 d1 d2
       go_wp2_with (at_builtin; (refine wpList_piece rfl _ _ rfl hll rfl HP5.out ⟨P5, ev, c5⟩ rfl rfl HPAY.out (by omega) hz5 rfl ?_))
       intro Z6 zc6 w6 ls6 HLS HP6 b6 _
       have HB6 := Lib.hid (HB5.out.trans b6)
       have HPP := Lib.hid HP6
       have HLL : Hid (ls6.length = k + 1) := by show _ = _; rw [HLS.out, List.length_append, hll]; rfl
       have HFF : Hid (flat ls6 = (ks.take (k + 1)).flatMap (encK x.r)) := by show _ = _; rw [HLS.out, flat_snoc, HF.out, HS1.out]
       clear HP6 b6
       go_wp2_with fail
       go_roundw
       case rel => exact ⟨k + 1, Z6, zc6, ls6, by omega, by go_num, rfl, HPP.out, HFF.out, HLL.out, HB6.out⟩
       case measure => simp [intOf]; omega
    · obtain rfl : k = ks.length := by omega
      have hnn : ¬ (ks.length : Int) < ks.length := by omega
      have hle := HLE.out ks.length (Nat.le_refl _)
      have HC := Lib.hid (concat_any Z ls zc wo HP.out.rs HP.out.each (by rw [HF.out]; omega) (by omega))
      rw [HF.out, hll, List.take_length] at HC
      go_wp2_with fail
      with_reducible refine HC.out.mono ?_
      rintro e w7 ⟨v7, rfl, h7, b7⟩
      have HBWw := Lib.hid (HB.out.trans (HBW.out.mono HB.out.size))
      have HO7 := Lib.hid (own_base h7 HBWw.out.size)
      have HB7 := Lib.hid (HBWw.out.trans (b7.mono HBWw.out.size))
      clear h7 b7
      go_wp2_with fail
      go_ret
      exact ⟨_, rfl, HO7.out, HB7.out⟩
/-- What Write leaves: a frame in new memory, or an error. -/
def wrPost (w : World) (code : Int) (l : Bs) (n : Int) : Ending → World → Prop := fun e w' =>
  ∃ A k, e = .returned (.tuple #[.agg #[.int .u8 code, .slice A l.length k], .int .i64 n]) ∧ Fre w.heap.size w' A l k ∧ Below w.heap.size w w'
def wrC (r : Rsp) : Int := if validS r then 64 + r.op else 0
def wrP (r : Rsp) : Bs := if validS r then payS r else []
def wrE (r : Rsp) : Int := if validS r then 0 else 2
theorem valid_items {r : Rsp} (h : validS r = true) : r.items.length ≤ 16 := by
  obtain ⟨_, ⟨e1, e2⟩, _, h4, _, h6, h7, _, _⟩ := valid_has h
  unfold onlyR at h4
  split at h4
  · rw [h4]; simp [bareR]
  · rename_i he
    have he : r.err = 0 := by simpa using he
    split at h4
    · rw [h4]; simp [bareR]
    · split at h4
      · rename_i hq
        rcases hq with hq | hq
        · have := h6 he hq; omega
        · exact (h7 he hq).2
      · split at h4
        · rw [h4]; simp [bareR]
        · rw [h4]; simp [bareR]
theorem valid_marks {r : Rsp} (h : validS r = true) : ∀ y ∈ r.items, 0 ≤ y.mark := fun y hy => by
  have := (valid_has h).2.2.2.2.1 y hy
  unfold okI at this
  simp only [Bool.and_eq_true, decide_eq_true_eq] at this
  exact this.2.1
theorem pay_go {r : Rsp} (h : validS r = true) : payS r = encN r.err.toNat ++ (bodyK r.op r.err).flatMap (encK r) := by
  obtain ⟨⟨o1, o2⟩, ⟨e1, e2⟩, h0, h4, _, h6, h7, _, _⟩ := valid_has h
  unfold payS bodyK
  by_cases he : r.err = 0
  · rw [if_pos he, if_neg (by simpa using he)]
    congr 1
    unfold onlyR at h4
    rw [if_neg (by simpa using he)] at h4
    obtain ⟨op, err, items, version, count, numbers⟩ := r
    simp only at h0 h4 he h6 h7 o1 o2 ⊢
    have hop : op = 1 ∨ op = 2 ∨ op = 3 ∨ op = 4 ∨ op = 5 ∨ op = 6 ∨ op = 7 ∨ op = 8 ∨ op = 9 ∨ op = 10 ∨ op = 11 ∨ op = 12 ∨ op = 13 ∨ op = 14 ∨ op = 15 := by omega
    rcases hop with rfl | rfl | rfl | rfl | rfl | rfl | rfl | rfl | rfl | rfl | rfl | rfl | rfl | rfl | rfl
    all_goals simp (decide := true) [bareR, he] at h4 h6 h7
    all_goals simp (decide := true) [headS, need, partsS, encK, h4]
    all_goals (
      match items, h6 with
      | [y], _ => simp
      | [], e => simp at e
      | _ :: _ :: _, e => simp at e)
  · rw [if_neg he, if_pos (by simpa using he)]; rfl
end Go.Proofs.YthlfahblnpijaaaDoor.Sx
namespace Go.Proofs.YthlfahblnpijaaaDoor.Sx
open Go.RowKit Vm Ap Vw Va Vab Gc Mi Mb Qm Sm Se So Sb Sw Sc Sg Fc

set_option maxRecDepth 100000 in
set_option maxHeartbeats 8000000 in
theorem write_any (x : Res) (w : World) (hr : RRc w x) (hb : BndS x) : Calls Tryd.prog 6 #[resV x] w (wrPost w (wrC x.r) (wrP x.r) (wrE x.r)) := by
  unfold resV
  obtain ⟨C, hC⟩ : ∃ C, C = w.heap.size := ⟨_, rfl⟩
  obtain ⟨w0, hw0⟩ : ∃ w0, w0 = (w.alloc (resO x)).alloc (.cells #[.int .u8 0, .slice none 0 0] 31) := ⟨_, rfl⟩
  have HB : Hid (Below w.heap.size w w0) := by show Below _ _ _; rw [hw0]; exact two_below _ _ _
  have HBX : Hid (BoxS w0 C x) := by show BoxS _ _ _; rw [hw0, hC]; exact (BoxS.new w x).below (alloc_below _ _) (Nat.le_refl _)
  have HCE : Hid (Cel w0 (C + 1) (.int .u8 0) (.slice none 0 0)) := by
    have h := Cel.new (w.alloc (resO x)) (.int .u8 0) (.slice none 0 0) 31
    have e : (w.alloc (resO x)).heap.size = C + 1 := by rw [hC]; simp
    rw [e] at h
    show Cel _ _ _ _
    rw [hw0]; exact h
  have HS0 : Hid (w0.heap.size = C + 2) := by show _ = _; rw [hw0, hC]; simp
  have HC := Lib.hid hC
  have HV := Lib.hid (valid_any x w0 (hr.below HB.out (Nat.le_refl _)) hb)
  have HR := Lib.hid (fun W (h : Below w0.heap.size w0 W) => (hr.below HB.out (Nat.le_refl _)).below h (Nat.le_refl _))
  have HBD := Lib.hid hb
  unfold resV at HV
  unfold resO at hw0
  obtain ⟨a0, a1, a2, a3, a4, a5, _⟩ := HBX.out
  clear hr hb
  by_cases h : validS x.r = true
  rotate_left
  · have hf : validS x.r = false := by simpa using h
    have H1 : Hid (wrC x.r = 0 ∧ wrP x.r = [] ∧ wrE x.r = 2) := by show _ ∧ _; unfold wrC wrP wrE; simp [hf]
    rw [H1.out.1, H1.out.2.1, H1.out.2.2]
    rw [hf] at HV
    clear h hf
    go_enter Tryd.func6, Tryd.ntmps6
    go_upto_region 1 with fail
    rw [← hw0, ← hC]
    clear hw0 hC
    go_wp2_with fail
    with_reducible refine HV.out.mono ?_
    rintro e w1 ⟨rfl, b1⟩
    have HB1 := Lib.hid (HB.out.trans (b1.mono HB.out.size))
    obtain ⟨q0, q1, g0, g1⟩ := HCE.out.below b1 (Nat.le_refl _)
    clear b1 a0 a1 a2 a3 a4 a5
    go_wp2_with fail
    exact bodyPost_ret (v := .tuple #[.agg #[.int .u8 0, .slice none 0 0], .int .i64 2]) (by simp [results, Tryd.results6, go_sem, q0, q1]) rfl ⟨none, 0, rfl, Fre.nil _ _, (HB1.out.setCell (by have := HC.out; simp; omega) _).setCell (by have := HC.out; simp; omega) _⟩
  have H1 : Hid (wrC x.r = 64 + x.op ∧ wrP x.r = encN x.err.toNat ++ (bodyK x.op x.err).flatMap (encK x.r) ∧ wrE x.r = 0) := by
    show _ ∧ _; unfold wrC wrP wrE; rw [if_pos h, if_pos h, if_pos h, pay_go h]; exact ⟨rfl, rfl, rfl⟩
  obtain ⟨⟨o1, o2⟩, ⟨e1, e2⟩, hne, _, _, hq6, _, ⟨hc0, _⟩, _⟩ := valid_has h
  have hi16 := valid_items h
  have hmk := valid_marks h
  simp only [Res.r, List.length_map] at o1 o2 e1 e2 hne hi16 hc0 hq6
  have HWR : Hid (∀ W, Below w0.heap.size w0 W → WrS W x) := fun W hW => ⟨HR.out W hW, HBD.out, by omega, hc0, fun y hy => hmk y.i (List.mem_map.2 ⟨y, hy, rfl⟩)⟩
  have HBO := Lib.hid (fun W => body_any x.op x.err W)
  have hk2 : (2 ∈ bodyK x.op x.err → 1 ≤ x.items.length) ∧ (bodyK x.op x.err).length ≤ 10 ∧ ∀ k ∈ bodyK x.op x.err, k ≤ 4 := by
    have hop : x.op = 0 ∨ x.op = 1 ∨ x.op = 2 ∨ x.op = 3 ∨ x.op = 4 ∨ x.op = 5 ∨ x.op = 6 ∨ x.op = 7 ∨ x.op = 8 ∨ x.op = 9 ∨ x.op = 10 ∨ x.op = 11 ∨ x.op = 12 ∨ x.op = 13 ∨ x.op = 14 ∨ x.op = 15 := by omega
    unfold bodyK
    by_cases he : x.err = 0
    · rw [if_neg (by simpa using he)]
      rcases hop with e | e | e | e | e | e | e | e | e | e | e | e | e | e | e | e
      all_goals rw [e]
      all_goals simp (decide := true)
      have h4 := hq6 he (by rw [e]; decide)
      omega
    · rw [if_pos (by simpa using he)]; simp
  have HK2 := Lib.hid hk2
  have hle0 := enc_le x.err.toNat (by unfold big; omega)
  have HFL : Hid (∀ W, WrS W x → ((bodyK x.op x.err).flatMap (encK x.r)).length ≤ 410000000) := fun W hW => by
    have := flatK_le hW (bodyK x.op x.err) _ (Nat.le_refl _)
    rw [List.take_length] at this
    have := HK2.out.2.1
    omega
  have hwr : IntKind.u64.wrap x.err = x.err := by rw [IntKind.wrap_u64]; omega
  have HPN : Hid (∀ W, Calls Tryd.prog 14 #[.int .u64 (IntKind.u64.wrap x.err)] W (bytesPost W (encN x.err.toNat))) := fun W => by rw [hwr]; exact putN_at (m := x.err) W e1 (by omega)
  clear hwr
  rw [H1.out.1, H1.out.2.1, H1.out.2.2]
  rw [h] at HV
  generalize bodyK x.op x.err = ks at *
  obtain ⟨q1, hq1⟩ : ∃ q, q = encN x.err.toNat := ⟨_, rfl⟩
  rw [← hq1] at HPN hle0 ⊢
  obtain ⟨q2, hq2⟩ : ∃ q, q = ks.flatMap (encK x.r) := ⟨_, rfl⟩
  rw [← hq2] at HFL ⊢
  have HQ2 := Lib.hid hq2
  have hfl := HFL.out w0 (HWR.out w0 (Below.refl _ _))
  clear hq1 hq2 h hne hi16 hmk hc0 hq6 hk2 H1 HFL
  unfold togPost togV at HBO
  go_enter Tryd.func6, Tryd.ntmps6
  go_upto_region 1 with fail
  rw [← hw0, ← hC]
  clear hw0 hC
  go_wp2_with fail
  with_reducible refine HV.out.mono ?_
  rintro e w1 ⟨rfl, b1⟩
  have HB1 := Lib.hid b1
  clear b1 a0 a1 a2 a3 a4 a5
  have HBX1 := Lib.hid (HBX.out.below HB1.out (Nat.le_refl _))
  have k0 : ∀ v, Below w1.heap.size w1 v → v.cell? ⟨C, 0, none⟩ = some (.int .i64 x.op) := fun v h => (HBX1.out.below h (Nat.le_refl _)).c0
  have k1 : ∀ v, Below w1.heap.size w1 v → v.cell? ⟨C, 1, none⟩ = some (.int .i64 x.err) := fun v h => (HBX1.out.below h (Nat.le_refl _)).c1
  have k2 : ∀ v, Below w1.heap.size w1 v → v.cell? ⟨C, 2, none⟩ = some (.slice x.IA x.items.length x.ik) := fun v h => (HBX1.out.below h (Nat.le_refl _)).c2
  have k3 : ∀ v, Below w1.heap.size w1 v → v.cell? ⟨C, 3, none⟩ = some (.int .u64 (x.version : Int)) := fun v h => (HBX1.out.below h (Nat.le_refl _)).c3
  have k4 : ∀ v, Below w1.heap.size w1 v → v.cell? ⟨C, 4, none⟩ = some (.int .i64 x.count) := fun v h => (HBX1.out.below h (Nat.le_refl _)).c4
  have k5 : ∀ v, Below w1.heap.size w1 v → v.cell? ⟨C, 5, none⟩ = some (.slice x.NA x.numbers.length x.nk) := fun v h => (HBX1.out.below h (Nat.le_refl _)).c5
  go_wp2_with fail
  refine wp_region_noPanic ?_
  refine wp_region_held_drew (S := fun v => Below w1.heap.size w1 v) (by kernel_rfl) ((Below.refl _ _).drew) (fun hHeld => ?_)
  refine wpAnyH_take (i := 0) (oi := ⟨some 9, _, _, _, _, _⟩) (v := ?_) rfl (by kernel_rfl) (by kernel_rfl) (by kernel_rfl) (fun _ _ _ h => h) (Or.inl ⟨by rfl, ?_⟩) (by assumption) ?_
  rotate_left
  · intro w hSw; go_simp; first | done | with_reducible rfl
  try simp only [Act.put, List.setIfInBounds_toArray, List.set_cons_zero, List.set_cons_succ]
  refine wpAnyH_take (i := 1) (oi := ⟨some 10, _, _, _, _, _⟩) (v := ?_) rfl (by kernel_rfl) (by kernel_rfl) (by kernel_rfl) (fun _ _ _ h => h) (Or.inl ⟨by rfl, ?_⟩) (by assumption) ?_
  rotate_left
  · intro w hSw; go_simp; first | done | with_reducible rfl
  try simp only [Act.put, List.setIfInBounds_toArray, List.set_cons_zero, List.set_cons_succ]
  refine wpAnyH_take (i := 2) (oi := ⟨some 11, _, _, _, _, _⟩) (v := ?_) rfl (by kernel_rfl) (by kernel_rfl) (by kernel_rfl) (fun _ _ _ h => h) (Or.inl ⟨by rfl, ?_⟩) (by assumption) ?_
  rotate_left
  · intro w hSw; go_simp; first | done | with_reducible rfl
  try simp only [Act.put, List.setIfInBounds_toArray, List.set_cons_zero, List.set_cons_succ]
  refine wpAnyH_take (i := 4) (oi := ⟨some 13, _, _, _, _, _⟩) (v := ?_) rfl (by kernel_rfl) (by kernel_rfl) (by kernel_rfl) (fun _ _ _ h => h) (Or.inl ⟨by rfl, ?_⟩) (by assumption) ?_
  rotate_left
  · intro w hSw; go_simp; first | done | with_reducible rfl
  try simp only [Act.put, List.setIfInBounds_toArray, List.set_cons_zero, List.set_cons_succ]
  refine wpAnyH_take (i := 5) (oi := ⟨some 14, _, _, _, _, _⟩) (v := ?_) rfl (by kernel_rfl) (by kernel_rfl) (by kernel_rfl) (fun _ _ _ h => h) (Or.inl ⟨by rfl, ?_⟩) (by assumption) ?_
  rotate_left
  · intro w hSw; go_simp; first | done | with_reducible rfl
  try simp only [Act.put, List.setIfInBounds_toArray, List.set_cons_zero, List.set_cons_succ]
  refine wpAnyH_take (i := 6) (oi := ⟨some 15, _, _, _, _, _⟩) (v := ?_) rfl (by kernel_rfl) (by kernel_rfl) (by kernel_rfl) (fun _ _ _ h => h) (Or.inl ⟨by rfl, ?_⟩) (by assumption) ?_
  rotate_left
  · intro w hSw; go_simp; first | done | with_reducible rfl
  try simp only [Act.put, List.setIfInBounds_toArray, List.set_cons_zero, List.set_cons_succ]
  refine wpAnyH_take (i := 7) (oi := ⟨some 16, _, _, _, _, _⟩) (v := ?_) rfl (by kernel_rfl) (by kernel_rfl) (by kernel_rfl) (fun _ _ _ h => h) (Or.inl ⟨by rfl, ?_⟩) (by assumption) ?_
  rotate_left
  · intro w hSw; go_simp; first | done | with_reducible rfl
  try simp only [Act.put, List.setIfInBounds_toArray, List.set_cons_zero, List.set_cons_succ]
  refine wpAnyH_take (i := 10) (oi := ⟨some 19, _, _, _, _, _⟩) (v := ?_) rfl (by kernel_rfl) (by kernel_rfl) (by kernel_rfl) (fun _ _ _ h => h) (Or.inl ⟨by rfl, ?_⟩) (by assumption) ?_
  rotate_left
  · intro w hSw; go_simp; first | done | with_reducible rfl
  try simp only [Act.put, List.setIfInBounds_toArray, List.set_cons_zero, List.set_cons_succ]
  refine wpAnyH_ready (rs := [3]) (by kernel_rfl) (by simp) ?_
  refine AllReadyH.cons (o := ⟨some 12, _, _, _, _, _⟩) rfl (fun K hK => ?_) AllReadyH.nil
  go_simp
  with_reducible refine (HPN.out _).mono ?_
  rintro e u1 ⟨v1, rfl, h1, bx⟩
  obtain ⟨P1, c1, s1⟩ := own_shape h1
  obtain rfl := s1.val
  have SP1 := Lib.hid s1
  have HU1 : Hid (Below w1.heap.size w1 u1) := hHeld.trans (bx.mono hHeld.size)
  clear h1 s1 bx
  go_simp
  refine hK.out _ _ (HU1.out) (fun hHeld => ?_)
  clear hK K
  try simp only [Act.put, List.setIfInBounds_toArray, List.set_cons_zero, List.set_cons_succ]
  refine wpAnyH_ready (rs := [8]) (by kernel_rfl) (by simp) ?_
  refine AllReadyH.cons (o := ⟨some 17, _, _, _, _, _⟩) rfl (fun K hK => ?_) AllReadyH.nil
  go_simp
  with_reducible refine (HBO.out _).mono ?_
  rintro e u2 ⟨g, rfl, hpb, hgg, bx⟩
  have HPB := Lib.hid hpb
  have HU2 : Hid (Below w1.heap.size w1 u2) := hHeld.trans (bx.mono hHeld.size)
  have R1 := Lib.hid (SP1.out.rd.below bx (Nat.le_refl _))
  have FL := fun v => fld1 (.int .u64 (setN ks : Int)) (.func (.func 48) #[] #[.pointer (some ⟨g, 0, none⟩)]) (.func (.func 49) #[] #[.pointer (some ⟨g, 0, none⟩)]) v
  clear hpb hgg bx
  go_simp
  refine hK.out _ _ (HU2.out) (fun hHeld => ?_)
  clear hK K
  try simp only [Act.put, List.setIfInBounds_toArray, List.set_cons_zero, List.set_cons_succ]
  refine wpAnyH_take (i := 9) (oi := ⟨some 18, _, _, _, _, _⟩) (v := ?_) rfl (by kernel_rfl) (by kernel_rfl) (by kernel_rfl) (fun _ _ _ h => h) (Or.inl ⟨by rfl, ?_⟩) (by assumption) ?_
  rotate_left
  · intro w hSw; go_simp; first | done | with_reducible rfl
  try simp only [Act.put, List.setIfInBounds_toArray, List.set_cons_zero, List.set_cons_succ]
  have HT : Hid (Calls Tryd.prog 48 #[resV x, .pointer (some ⟨g, 0, none⟩)] u2 (bytesPost u2 q2)) := by show Calls _ _ _ _ _; rw [HQ2.out]; exact tog1_any _ g ks x u2 HPB.out (HWR.out u2 (HB1.out.trans (HU2.out.mono HB1.out.size))) HK2.out.1 HK2.out.2.1 HK2.out.2.2
  unfold resV at HT
  refine wpAnyH_ready (rs := [11]) (by kernel_rfl) (by simp) ?_
  refine AllReadyH.cons (o := ⟨some 20, _, _, _, _, _⟩) rfl (fun K hK => ?_) AllReadyH.nil
  go_simp
  with_reducible refine HT.out.mono ?_
  rintro e u3 ⟨v3, rfl, h3, bx⟩
  obtain ⟨P3, c3, s3⟩ := own_shape h3
  obtain rfl := s3.val
  have SP3 := Lib.hid s3
  have HU3 : Hid (Below w1.heap.size w1 u3) := hHeld.trans (bx.mono hHeld.size)
  have R13 := Lib.hid (R1.out.below bx (Nat.le_refl _))
  clear h3 s3 bx R1 FL
  go_simp
  refine hK.out _ _ (HU3.out) (fun hHeld => ?_)
  clear hK K
  try simp only [Act.put, List.setIfInBounds_toArray, List.set_cons_zero, List.set_cons_succ]
  refine wpAnyH_ready (rs := [12]) (by kernel_rfl) (by simp) ?_
  refine AllReadyH.cons (o := ⟨some 21, _, _, _, _, _⟩) rfl (fun K hK => ?_) AllReadyH.nil
  go_simp
  refine hK.out _ _ (HU3.out.alloc HU3.out.size _) (fun hHeld => ?_)
  clear hK K
  try simp only [Act.put, List.setIfInBounds_toArray, List.set_cons_zero, List.set_cons_succ]
  have HC4 : Hid (∀ nb, u3.heap.size = nb → Calls Tryd.prog 13 #[.slice (some ⟨nb, 0, none⟩) 2 2] (u3.alloc (.cells #[.slice P1 q1.length c1, .slice P3 q2.length c3] 29)) (bytesPost (u3.alloc (.cells #[.slice P1 q1.length c1, .slice P3 q2.length c3] 29)) (q1 ++ q2))) := fun nb hnb => by
    have hb4 := alloc_below u3 (.cells #[.slice P1 q1.length c1, .slice P3 q2.length c3] 29)
    have h := concat_any (some ⟨nb, 0, none⟩) [⟨P1, q1, c1⟩, ⟨P3, q2, c3⟩] 2 _ (rs_lit hnb _ #[.slice P1 q1.length c1, .slice P3 q2.length c3] rfl)
      (fun x hx => by
        simp only [List.mem_cons, List.not_mem_nil, or_false] at hx
        rcases hx with rfl | rfl
        · exact ⟨R13.out.below hb4 (Nat.le_refl _), SP1.out.non⟩
        · exact ⟨SP3.out.rd.below hb4 (Nat.le_refl _), SP3.out.non⟩)
      (by unfold flat; simp; omega) (by simp)
    have e : flat [⟨P1, q1, c1⟩, ⟨P3, q2, c3⟩] = q1 ++ q2 := by unfold flat; simp
    rw [e] at h; exact h
  obtain ⟨q3, hq3⟩ : ∃ q, q = q1 ++ q2 := ⟨_, rfl⟩
  rw [← hq3] at HC4
  have HQ3 := Lib.hid hq3
  clear hq3
  refine wpAnyH_ready (rs := [13]) (by kernel_rfl) (by simp) ?_
  refine AllReadyH.cons (o := ⟨some 22, _, _, _, _, _⟩) rfl (fun K hK => ?_) AllReadyH.nil
  go_simp
  refine (HC4.out _ rfl).mono ?_
  rintro e u5 ⟨v5, rfl, h5, bx⟩
  have HU5 : Hid (Below w1.heap.size w1 u5) := hHeld.trans (bx.mono hHeld.size)
  have HO5 := Lib.hid (own_base h5 hHeld.size)
  clear h5 bx
  go_simp
  refine hK.out _ _ (HU5.out) (fun hHeld => ?_)
  clear hK K
  try simp only [Act.put, List.setIfInBounds_toArray, List.set_cons_zero, List.set_cons_succ]
  refine wpAnyH_take (i := 14) (oi := ⟨some 4, _, _, _, _, _⟩) (v := ?_) rfl (by kernel_rfl) (by kernel_rfl) (by kernel_rfl) (fun _ _ _ h => h) (Or.inl ⟨by rfl, ?_⟩) (by assumption) ?_
  rotate_left
  · intro w hSw; go_simp; first | done | with_reducible rfl
  try simp only [Act.put, List.setIfInBounds_toArray, List.set_cons_zero, List.set_cons_succ]
  refine wpAnyH_done (by kernel_rfl) ?_ _
  refine NoPanic.normal ?_
  obtain ⟨P5, c5, s5⟩ := own_shape HO5.out
  obtain rfl := s5.val
  have HM5 := Lib.hid (mine_own HO5.out)
  have b0 := k0 u5 HU5.out
  obtain ⟨q0', q1', g0, g1⟩ := (HCE.out.below HB1.out (Nat.le_refl _)).below HU5.out (Nat.le_refl _)
  have hz1 := HB1.out.size
  clear k0 k1 k2 k3 k4 k5 s5
  go_wp2_with fail
  refine bodyPost_ret (v := .tuple #[.agg #[.int .u8 (64 + x.op), .slice P5 q3.length c5], .int .i64 0]) (by simp [results, Tryd.results6, go_sem, q0', q1']) rfl ⟨P5, c5, by rw [← HQ3.out], ?_, ?_⟩
  · rw [← HQ3.out]
    have hM := HM5.out.only (((Only.refl (fun j => j = C + 1) u5).put (ad := ⟨C + 1, 0, none⟩) rfl (.int .u8 (64 + x.op))).put (ad := ⟨C + 1, 1, none⟩) rfl (.slice P5 q3.length c5)) (fun a ha e => by have := (HM5.out.base ha).1; have := HS0.out; omega)
    exact fre_mine (hM.mono (by have := HB.out.size; omega))
  · exact ((((HB.out.trans (HB1.out.mono HB.out.size)).trans (HU5.out.mono (by have := HB.out.size; omega)))).setCell (by have := HC.out; simp; omega) _).setCell (by have := HC.out; simp; omega) _
end Go.Proofs.YthlfahblnpijaaaDoor.Sx
