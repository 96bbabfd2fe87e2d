/- Proves that VarintHolds returns true at every argument. Conditions: as the row gives them. -/
import Derived.Test.YtngeocacbegjkaaVq
import Derived.Deep.RegionHeld3
namespace Go.Proofs.Ytngeocacbegjkaa.Vz
open Go.RowKit Vm Ap Vw Va Vab Vr Vrb Vg Vgr Vc Vp Vpr Vn Vs Vh Vk Vl Vq

/-- A thing as it stands in memory: its number, its bytes with their address and capacity. -/
structure Th where
  n : Nat
  A : Option Addr
  c : Nat
  p : Bs
def Rt (w : World) (A : Option Addr) (l : List Th) : Prop :=
  0 < l.length → ∃ b o, A = some ⟨b, o, none⟩ ∧ b < w.heap.size ∧ ∀ j (h : j < l.length), w.cell? ⟨b, o + j * 2, none⟩ = some (.int .u64 (l[j].n : Int)) ∧ w.cell? ⟨b, o + j * 2 + 1, none⟩ = some (.slice l[j].A l[j].p.length l[j].c)
/-- What an argument of things gives. -/
structure Things (W : World) (A : Option Addr) (l : List Th) (c : Nat) : Prop where
  rd : Rt W A l
  le : l.length ≤ c
  max : c ≤ maxLen
  one : ∀ x ∈ l, x.n < big ∧ Arg W x.A x.p x.c
def encT (x : Th) : Bs := encN x.n ++ (encN x.p.length ++ x.p)
def encAll (l : List Th) : Bs := l.flatMap encT
theorem encAll_take {l : List Th} {k : Nat} (h : k < l.length) : encAll (l.take (k + 1)) = encAll (l.take k) ++ encT l[k] := by
  unfold encAll; rw [List.take_succ_eq_append_getElem h, List.flatMap_append]; simp
theorem encAll_drop {l : List Th} {k : Nat} (h : k < l.length) : encAll (l.drop k) = encT l[k] ++ encAll (l.drop (k + 1)) := by
  unfold encAll; rw [List.drop_eq_getElem_cons h, List.flatMap_cons]
theorem encT_len {x : Th} (h1 : x.n < big) (h2 : x.p.length ≤ 200) : (encT x).length ≤ 220 := by
  unfold encT
  have := enc_le x.n h1
  have := enc_le x.p.length (by unfold big; omega)
  rw [List.length_append, List.length_append]; omega
theorem encAll_len : ∀ (l : List Th), (∀ x ∈ l, x.n < big ∧ x.p.length ≤ 200) → (encAll l).length ≤ 220 * l.length
  | [], _ => by simp [encAll]
  | x :: r, h => by
    have h1 := encAll_len r (fun y hy => h y (by simp [hy]))
    have h2 := encT_len (h x (by simp)).1 (h x (by simp)).2
    have e : encAll (x :: r) = encT x ++ encAll r := by unfold encAll; rw [List.flatMap_cons]
    rw [e, List.length_append, List.length_cons]; omega

theorem take_all {l : List Th} {P : Th → Prop} {k : Nat} (h : k < l.length) (h1 : ∀ x ∈ l.take k, P x) (h2 : P l[k]) : ∀ x ∈ l.take (k + 1), P x := by
  rw [List.take_succ_eq_append_getElem h]
  intro x hx
  rcases List.mem_append.1 hx with hx | hx
  · exact h1 x hx
  · rw [List.mem_singleton.1 hx]; exact h2

set_option maxRecDepth 100000 in
set_option maxHeartbeats 8000000 in
theorem holds_main (A D : Option Addr) (l : List Th) (b : Bs) (c d : Nat) (W : World) (ha : Arg W A b c) (hb : Things W D l d) (hbl : b.length ≤ 300) (hll : l.length ≤ 20) :
    Calls Try.prog 8 #[.slice D l.length d, .slice A b.length c] W (boolBelow W) := by
  have HK := known_hid
  have HA := Lib.hid ha.rd
  have HN := Lib.hid ha.non
  have HD := Lib.hid hb.rd
  have HONE := Lib.hid hb.one
  have h1 : (b.length : Int) ≤ 300 := by omega
  have h2 : (l.length : Int) ≤ 20 := by omega
  have hcm := ha.max
  have hcl := ha.le
  have hdm := hb.max
  have hdl := hb.le
  unfold maxLen at hcm hdm
  clear ha hb
  go_enter Try.func8, Try.ntmps8
  go_wp2_with fail
  go_loopw [5, 26] (fun all i wr => ∃ k : Nat, k ≤ l.length ∧ i = .int .i64 (k : Int) ∧ Own W.heap.size wr all (encAll (l.take k)) ∧ (∀ x ∈ l.take k, x.n < big ∧ x.p.length ≤ 200) ∧ Below W.heap.size W wr) (fun _ i _ => l.length - (intOf i).toNat)
  case atStart => exact ⟨0, Nat.zero_le _, rfl, own_nil _ _, by simp, Below.refl _ _⟩
  case round =>
    obtain ⟨k, hk, rfl, hown, hsm, hbw⟩ := hrel
    obtain ⟨ea, hea⟩ : ∃ ea, ea = encAll (l.take k) := ⟨_, rfl⟩
    rw [← hea] at hown
    have hel : ea.length ≤ 220 * k := by
      have := encAll_len (l.take k) hsm
      rw [← hea] at this
      have := List.length_take_le k l
      omega
    have HEA := Lib.hid hea
    obtain ⟨V, vc, shV⟩ := own_shape hown
    obtain rfl := shV.val
    have HVN := Lib.hid shV.non
    have HO := Lib.hid hown
    clear hea
    have HSM := Lib.hid hsm
    have HBW := Lib.hid hbw
    clear hown hsm shV
    by_cases hkl : k < l.length
    · obtain ⟨tb, to_, rfl, htb, hcells⟩ := HD.out (by omega)
      obtain ⟨c0, c1⟩ := hcells k hkl
      obtain ⟨hxn, hxa⟩ := HONE.out _ (List.getElem_mem hkl)
      rw [← hbw.cell (p := ⟨tb, to_ + k * 2, none⟩) htb] at c0
      rw [← hbw.cell (p := ⟨tb, to_ + k * 2 + 1, none⟩) htb] at c1
      have HTK := Lib.hid (encAll_take hkl)
      obtain ⟨x, hx⟩ : ∃ x, x = l[k] := ⟨_, rfl⟩
      rw [← hx] at c0 c1 hxn hxa HTK
      have HX := Lib.hid hx
      have HXA := Lib.hid hxa
      have hxl := Nat.le_trans hxa.le hxa.max
      unfold maxLen at hxl
      have i1 : (k : Int) < l.length := by omega
      obtain ⟨wa, hwa⟩ : ∃ wa, wa = wr.alloc (.cells #[.int .u64 (x.n : Int), .slice x.A x.p.length x.c] 58) := ⟨_, rfl⟩
      have HBa : Hid (Below W.heap.size W wa) := by rw [hwa]; exact HBW.out.alloc HBW.out.size _
      have ca0 : wa.cell? ⟨wr.heap.size, 0, none⟩ = some (.int .u64 (x.n : Int)) := by rw [hwa, cell_of_row _ _ 0 _ _ (0, 0) (heap_alloc_new _ _)]; rfl
      have ca1 : wa.cell? ⟨wr.heap.size, 1, none⟩ = some (.slice x.A x.p.length x.c) := by rw [hwa, cell_of_row _ _ 1 _ _ (0, 0) (heap_alloc_new _ _)]; rfl
      have hla := World.block_lt_of_cell? _ _ ca0
      have CA0 := Lib.hid ca0; have CA1 := Lib.hid ca1
      have SVa := Lib.hid (own_below HO.out (by rw [hwa]; exact (Below.refl _ _).alloc (Nat.le_refl _) _ : Below wr.heap.size wr wa) (Nat.le_refl _))
      clear hx hxa hcells hbw ca0 ca1
      by_cases h200 : 200 < x.p.length
      · have hi200 : (200 : Int) < (x.p.length : Int) := by omega
        clear h200
        go_wp2_with fail
        rw [← hwa]
        refine (HK.out _).mono ?_
        rintro e w7 ⟨rfl, hb⟩
        have HB7 := Lib.hid (step0 HBa.out hb); clear hb
        go_wp2_with fail
        go_ret
        exact ⟨rfl, HB7.out⟩
      · have hi200 : (x.p.length : Int) ≤ 200 := by omega
        have hp200 : x.p.length ≤ 200 := by omega
        obtain ⟨pe, hpe⟩ : ∃ pe, pe = encN x.n := ⟨_, rfl⟩
        have HPUT0 : Hid (Calls Try.prog 10 #[.slice none 0 0, .int .u64 (x.n : Int)] wa (bytesPost wa pe)) := by rw [hpe]; exact put_any none [] 0 x.n wa (Rb.nil _ _) (fun _ => rfl) (by simp) hxn
        have HPE := Lib.hid hpe
        clear hpe
        clear h200
        go_wp2_with fail
        rw [← hwa]
        clear hwa c0 c1
        refine HPUT0.out.mono ?_
        rintro e w2 ⟨v8, rfl, h8, hb⟩
        obtain ⟨P8, q8, sh8⟩ := own_shape h8
        obtain rfl := sh8.val
        have SP := Lib.hid sh8
        have HB2 := Lib.hid (step0 HBa.out hb)
        have HAB2 := Lib.hid (HA.out.below HB2.out (Nat.le_refl _))
        have cx0 : ∀ w, Below w2.heap.size w2 w → w.cell? ⟨wr.heap.size, 0, none⟩ = some (.int .u64 (x.n : Int)) := fun w h => by
          rw [h.cell (p := ⟨wr.heap.size, 0, none⟩) (Nat.lt_of_lt_of_le hla hb.size), hb.cell (p := ⟨wr.heap.size, 0, none⟩) hla]; exact CA0.out
        have cx1 : ∀ w, Below w2.heap.size w2 w → w.cell? ⟨wr.heap.size, 1, none⟩ = some (.slice x.A x.p.length x.c) := fun w h => by
          rw [h.cell (p := ⟨wr.heap.size, 1, none⟩) (Nat.lt_of_lt_of_le hla hb.size), hb.cell (p := ⟨wr.heap.size, 1, none⟩) hla]; exact CA1.out
        have CX1 := Lib.hid cx1
        have CX0 := Lib.hid cx0
        have SV2 := Lib.hid (own_below SVa.out hb (Nat.le_refl _))
        have hz2 : W.heap.size ≤ w2.heap.size := HB2.out.size
        clear h8 hb sh8 HPUT0 HO SVa cx1
        have hpe := HPE.out
        obtain ⟨pb, hpb⟩ : ∃ pb, pb = pe ++ b := ⟨_, rfl⟩
        have hpl : pe.length ≤ 10 := by rw [hpe]; exact enc_le _ hxn
        have HPB := Lib.hid hpb
        have HPL : Hid (pb.length = pe.length + b.length) := by show _ = _; rw [hpb, List.length_append]
        have hpbl : pb.length ≤ 310 := by rw [hpb, List.length_append]; omega
        have HGN : Hid ((getN pb : Int) = (x.n : Int)) := by show _ = _; rw [hpb, hpe, (get_put x.n b hxn).1]
        have HGS : Hid ((getS pb : Int) = (pe.length : Int)) := by show _ = _; rw [hpb, hpe, (get_put x.n b hxn).2.1]
        have HGE : Hid ((getE pb : Int) = 0) := by show _ = _; rw [hpb, hpe, (get_put x.n b hxn).2.2]; rfl
        have HSZ : Hid (∀ w, Calls Try.prog 12 #[.int .u64 (x.n : Int)] w fun e w' => e = .returned (.int .i64 (pe.length : Int)) ∧ w = w') := fun w => by rw [hpe]; exact size_any x.n w hxn
        clear hpe hpb
        go_wp2_with fail
        refine wp_region_noPanic ?_
        refine wp_region_held_drew (S := fun w => Below w2.heap.size w2 w) (by kernel_rfl) ((Below.refl _ _).drew) (fun hHeld => ?_)
        refine wpAnyH_take (i := 0) (oi := ⟨some 38, _, _, _, _, _⟩) (v := ?_) rfl (by kernel_rfl) (by kernel_rfl) (by kernel_rfl) (fun _ _ _ h => h) (Or.inl ⟨by rfl, ?_⟩) (by assumption) ?_
        rotate_left
        · intro w hSw; go_simp; first | done | with_reducible rfl
        try simp only [Act.put, List.setIfInBounds_toArray, List.set_cons_zero, List.set_cons_succ]
        refine wpAnyH_take (i := 2) (oi := ⟨some 40, _, _, _, _, _⟩) (v := ?_) rfl (by kernel_rfl) (by kernel_rfl) (by kernel_rfl) (fun _ _ _ h => h) (Or.inl ⟨by rfl, ?_⟩) (by assumption) ?_
        rotate_left
        · intro w hSw; go_simp; first | done | with_reducible rfl
        try simp only [Act.put, List.setIfInBounds_toArray, List.set_cons_zero, List.set_cons_succ]
        refine wpAnyH_take (i := 4) (oi := ⟨some 42, _, _, _, _, _⟩) (v := ?_) rfl (by kernel_rfl) (by kernel_rfl) (by kernel_rfl) (fun _ _ _ h => h) (Or.inl ⟨by rfl, ?_⟩) (by assumption) ?_
        rotate_left
        · intro w hSw; go_simp; first | done | with_reducible rfl
        try simp only [Act.put, List.setIfInBounds_toArray, List.set_cons_zero, List.set_cons_succ]
        refine wpAnyH_take (i := 5) (oi := ⟨some 43, _, _, _, _, _⟩) (v := ?_) rfl (by kernel_rfl) (by kernel_rfl) (by kernel_rfl) (fun _ _ _ h => h) (Or.inl ⟨by rfl, ?_⟩) (by assumption) ?_
        rotate_left
        · intro w hSw; go_simp; first | done | with_reducible rfl
        try simp only [Act.put, List.setIfInBounds_toArray, List.set_cons_zero, List.set_cons_succ]
        refine wpAnyH_take (i := 6) (oi := ⟨some 44, _, _, _, _, _⟩) (v := ?_) rfl (by kernel_rfl) (by kernel_rfl) (by kernel_rfl) (fun _ _ _ h => h) (Or.inl ⟨by rfl, ?_⟩) (by assumption) ?_
        rotate_left
        · intro w hSw; go_simp; first | done | with_reducible rfl
        try simp only [Act.put, List.setIfInBounds_toArray, List.set_cons_zero, List.set_cons_succ]
        refine wpAnyH_take (i := 7) (oi := ⟨some 45, _, _, _, _, _⟩) (v := ?_) rfl (by kernel_rfl) (by kernel_rfl) (by kernel_rfl) (fun _ _ _ h => h) (Or.inl ⟨by rfl, ?_⟩) (by assumption) ?_
        rotate_left
        · intro w hSw; go_simp; first | done | with_reducible rfl
        try simp only [Act.put, List.setIfInBounds_toArray, List.set_cons_zero, List.set_cons_succ]
        refine wpAnyH_ready (rs := [1]) (by kernel_rfl) (by simp) ?_
        refine AllReadyH.cons (o := ⟨some 39, _, _, _, _, _⟩) rfl (fun K hK => ?_) AllReadyH.nil
        refine step_from rfl _ _ rfl rfl (own_nil w2.heap.size _) pe P8 q8 rfl SP.out.non (SP.out.rd.below hHeld (Nat.le_refl _)) (by simp) (by omega) hHeld.size ?_
        intro v39 w39 h39 g39
        have H39 := Lib.hid h39
        clear h39
        refine hK.out _ _ (hHeld.grown g39 hHeld.size (by intro k e; cases e)) (fun hHeld => ?_)
        clear hK K
        try simp only [Act.put, List.setIfInBounds_toArray, List.set_cons_zero, List.set_cons_succ]
        refine wpAnyH_ready (rs := [3]) (by kernel_rfl) (by simp) ?_
        refine AllReadyH.cons (o := ⟨some 41, _, _, _, _, _⟩) rfl (fun K hK => ?_) AllReadyH.nil
        refine step_from rfl _ _ rfl rfl H39.out b A c rfl HN.out (HAB2.out.below hHeld (Nat.le_refl _)) (by simp; omega) (by omega) hHeld.size ?_
        intro v41 w41 h41 g41
        obtain ⟨G, gc, shG⟩ := own_shape h41
        obtain rfl := shG.val
        have SG := Lib.hid shG
        have G41 := Lib.hid g41
        clear h41 shG g41
        refine hK.out _ _ (hHeld.grown G41.out hHeld.size (fun k e => (World.ownsRow.lt H39.out k e).1)) (fun hHeld => ?_)
        clear hK K
        try simp only [Act.put, List.setIfInBounds_toArray, List.set_cons_zero, List.set_cons_succ]
        refine wpAnyH_ready (rs := [8]) (by kernel_rfl) (by simp) ?_
        refine AllReadyH.cons (o := ⟨some 46, _, _, _, _, _⟩) rfl (fun K hK => ?_) AllReadyH.nil
        go_simp
        refine (get_true G pb _ gc _ _ _ _ HPL.out (by rw [HPB.out]; exact SG.out.rd) (by omega) HGN.out HGS.out HGE.out).mono ?_
        rintro e w' ⟨rfl, rfl⟩
        go_simp
        refine hK.out _ _ hHeld (fun hHeld => ?_)
        clear hK K
        try simp only [Act.put, List.setIfInBounds_toArray, List.set_cons_zero, List.set_cons_succ]
        refine wpAnyH_take (i := 9) (oi := ⟨some 47, _, _, _, _, _⟩) (v := ?_) rfl (by kernel_rfl) (by kernel_rfl) (by kernel_rfl) (fun _ _ _ h => h) (Or.inl ⟨by rfl, ?_⟩) (by assumption) ?_
        rotate_left
        · intro w hSw; go_simp; first | done | with_reducible rfl
        try simp only [Act.put, List.setIfInBounds_toArray, List.set_cons_zero, List.set_cons_succ]
        refine wpAnyH_take (i := 10) (oi := ⟨some 48, _, _, _, _, _⟩) (v := ?_) rfl (by kernel_rfl) (by kernel_rfl) (by kernel_rfl) (fun _ _ _ h => h) (Or.inl ⟨by rfl, ?_⟩) (by assumption) ?_
        rotate_left
        · intro w hSw; go_simp; first | done | with_reducible rfl
        try simp only [Act.put, List.setIfInBounds_toArray, List.set_cons_zero, List.set_cons_succ]
        refine wpAnyH_take (i := 11) (oi := ⟨some 49, _, _, _, _, _⟩) (v := ?_) rfl (by kernel_rfl) (by kernel_rfl) (by kernel_rfl) (fun _ _ _ h => h) (Or.inl ⟨by rfl, ?_⟩) (by assumption) ?_
        rotate_left
        · intro w hSw; go_simp; first | done | with_reducible rfl
        try simp only [Act.put, List.setIfInBounds_toArray, List.set_cons_zero, List.set_cons_succ]
        refine wpAnyH_take (i := 12) (oi := ⟨some 50, _, _, _, _, _⟩) (v := ?_) rfl (by kernel_rfl) (by kernel_rfl) (by kernel_rfl) (fun _ _ _ h => h) (Or.inl ⟨by rfl, ?_⟩) (by assumption) ?_
        rotate_left
        · intro w hSw; go_simp; first | done | with_reducible rfl
        try simp only [Act.put, List.setIfInBounds_toArray, List.set_cons_zero, List.set_cons_succ]
        refine wpAnyH_take (i := 13) (oi := ⟨some 51, _, _, _, _, _⟩) (v := ?_) rfl (by kernel_rfl) (by kernel_rfl) (by kernel_rfl) (fun _ _ _ h => h) (Or.inl ⟨by rfl, ?_⟩) (by assumption) ?_
        rotate_left
        · intro w hSw; go_simp; first | done | with_reducible rfl
        try simp only [Act.put, List.setIfInBounds_toArray, List.set_cons_zero, List.set_cons_succ]
        refine wpAnyH_take (i := 14) (oi := ⟨some 52, _, _, _, _, _⟩) (v := ?_) rfl (by kernel_rfl) (by kernel_rfl) (by kernel_rfl) (fun _ _ _ h => h) (Or.inl ⟨by rfl, ?_⟩) (by assumption) ?_
        rotate_left
        · intro w hSw; go_simp; first | done | with_reducible rfl
        try simp only [Act.put, List.setIfInBounds_toArray, List.set_cons_zero, List.set_cons_succ]
        refine wpAnyH_ready (rs := [15]) (by kernel_rfl) (by simp) ?_
        refine AllReadyH.cons (o := ⟨some 53, _, _, _, _, _⟩) rfl (fun K hK => ?_) AllReadyH.nil
        go_simp
        refine (HSZ.out _).mono ?_
        rintro e w' ⟨rfl, rfl⟩
        go_simp
        refine hK.out _ _ hHeld (fun hHeld => ?_)
        clear hK K
        try simp only [Act.put, List.setIfInBounds_toArray, List.set_cons_zero, List.set_cons_succ]
        refine wpAnyH_take (i := 16) (oi := ⟨some 54, _, _, _, _, _⟩) (v := ?_) rfl (by kernel_rfl) (by kernel_rfl) (by kernel_rfl) (fun _ _ _ h => h) (Or.inl ⟨by rfl, ?_⟩) (by assumption) ?_
        rotate_left
        · intro w hSw; go_simp; first | done | with_reducible rfl
        try simp only [Act.put, List.setIfInBounds_toArray, List.set_cons_zero, List.set_cons_succ]
        refine wpAnyH_take (i := 17) (oi := ⟨some 55, _, _, _, _, _⟩) (v := ?_) rfl (by kernel_rfl) (by kernel_rfl) (by kernel_rfl) (fun _ _ _ h => h) (Or.inl ⟨by rfl, ?_⟩) (by assumption) ?_
        rotate_left
        · intro w hSw; go_simp; first | done | with_reducible rfl
        try simp only [Act.put, List.setIfInBounds_toArray, List.set_cons_zero, List.set_cons_succ]
        refine wpAnyH_take (i := 18) (oi := ⟨some 56, _, _, _, _, _⟩) (v := ?_) rfl (by kernel_rfl) (by kernel_rfl) (by kernel_rfl) (fun _ _ _ h => h) (Or.inl ⟨by rfl, ?_⟩) (by assumption) ?_
        rotate_left
        · intro w hSw; go_simp; first | done | with_reducible rfl
        try simp only [Act.put, List.setIfInBounds_toArray, List.set_cons_zero, List.set_cons_succ]
        refine wpAnyH_take (i := 19) (oi := ⟨some 57, _, _, _, _, _⟩) (v := ?_) rfl (by kernel_rfl) (by kernel_rfl) (by kernel_rfl) (fun _ _ _ h => h) (Or.inl ⟨by rfl, ?_⟩) (by assumption) ?_
        rotate_left
        · intro w hSw; go_simp; first | done | with_reducible rfl
        try simp only [Act.put, List.setIfInBounds_toArray, List.set_cons_zero, List.set_cons_succ]
        refine wpAnyH_take (i := 20) (oi := ⟨some 58, _, _, _, _, _⟩) (v := ?_) rfl (by kernel_rfl) (by kernel_rfl) (by kernel_rfl) (fun _ _ _ h => h) (Or.inl ⟨by rfl, ?_⟩) (by assumption) ?_
        rotate_left
        · intro w hSw; go_simp; first | done | with_reducible rfl
        try simp only [Act.put, List.setIfInBounds_toArray, List.set_cons_zero, List.set_cons_succ]
        refine wpAnyH_take (i := 21) (oi := ⟨some 59, _, _, _, _, _⟩) (v := ?_) rfl (by kernel_rfl) (by kernel_rfl) (by kernel_rfl) (fun _ _ _ h => h) (Or.inl ⟨by rfl, ?_⟩) (by assumption) ?_
        rotate_left
        · intro w hSw; go_simp; first | done | with_reducible rfl
        try simp only [Act.put, List.setIfInBounds_toArray, List.set_cons_zero, List.set_cons_succ]
        refine wpAnyH_take (i := 22) (oi := ⟨some 60, _, _, _, _, _⟩) (v := ?_) rfl (by kernel_rfl) (by kernel_rfl) (by kernel_rfl) (fun _ _ _ h => h) (Or.inl ⟨by rfl, ?_⟩) (by assumption) ?_
        rotate_left
        · intro w hSw; go_simp; first | done | with_reducible rfl
        try simp only [Act.put, List.setIfInBounds_toArray, List.set_cons_zero, List.set_cons_succ]
        refine wpAnyH_done (by kernel_rfl) ?_ _
        refine NoPanic.normal ?_
        generalize w41 = w3 at *
        have HB3 := Lib.hid (step0 HB2.out hHeld)
        have RV3 := Lib.hid (Rb.of_own (own_below SV2.out hHeld (Nat.le_refl _)))
        have RX3 := Lib.hid (HXA.out.rd.below HB3.out (Nat.le_refl _))
        have cy0 : ∀ w, Below w3.heap.size w3 w → w.cell? ⟨wr.heap.size, 0, none⟩ = some (.int .u64 (x.n : Int)) := fun w h => CX0.out w (step0 hHeld h)
        have cy1 : ∀ w, Below w3.heap.size w3 w → w.cell? ⟨wr.heap.size, 1, none⟩ = some (.slice x.A x.p.length x.c) := fun w h => CX1.out w (step0 hHeld h)
        obtain ⟨ef, hef⟩ : ∃ ef, ef = ea ++ pe := ⟨_, rfl⟩
        obtain ⟨eg, heg⟩ : ∃ eg, eg = ea ++ encT x := ⟨_, rfl⟩
        have hfl : ef.length ≤ 10000 := by rw [hef, List.length_append]; omega
        have HPUT : Hid (∀ w, Rb w V ea → Calls Try.prog 10 #[.slice V ea.length vc, .int .u64 (x.n : Int)] w (bytesPost w ef)) := fun w h => by
          rw [hef, HPE.out]; exact put_any V ea vc x.n w h HVN.out (by omega) hxn
        have HPB : Hid (∀ F fc w, Rb w F ef → (F = none → fc = 0) → Rb w x.A x.p → Calls Try.prog 11 #[.slice F ef.length fc, .slice x.A x.p.length x.c] w (bytesPost w eg)) := fun F fc w h hf hx => by
          have e : eg = ef ++ (encN x.p.length ++ x.p) := by rw [heg, hef, HPE.out]; unfold encT; rw [List.append_assoc]
          rw [e]; exact putB_any F x.A ef x.p fc x.c w h hf (by omega) hx HXA.out.non (by omega)
        have HEG : Hid (encAll (l.take (k + 1)) = eg) := by show _ = _; rw [HTK.out, heg, HEA.out]
        have HX2 : Hid (∀ y ∈ l.take (k + 1), y.n < big ∧ y.p.length ≤ 200) := take_all hkl HSM.out (by rw [← HX.out]; exact ⟨hxn, hp200⟩)
        clear hef heg hHeld cx0
        go_wp2_with fail
        refine wp_region_noPanic ?_
        refine wp_region_held_drew (S := fun w => Below w3.heap.size w3 w) (by kernel_rfl) ((Below.refl _ _).drew) (fun hHeld => ?_)
        refine wpAnyH_take (i := 0) (oi := ⟨some 61, _, _, _, _, _⟩) (v := ?_) rfl (by kernel_rfl) (by kernel_rfl) (by kernel_rfl) (fun _ _ _ h => h) (Or.inl ⟨by rfl, ?_⟩) (by assumption) ?_
        rotate_left
        · intro w hSw; go_simp; first | done | with_reducible rfl
        try simp only [Act.put, List.setIfInBounds_toArray, List.set_cons_zero, List.set_cons_succ]
        refine wpAnyH_take (i := 1) (oi := ⟨some 62, _, _, _, _, _⟩) (v := ?_) rfl (by kernel_rfl) (by kernel_rfl) (by kernel_rfl) (fun _ _ _ h => h) (Or.inl ⟨by rfl, ?_⟩) (by assumption) ?_
        rotate_left
        · intro w hSw; go_simp; first | done | with_reducible rfl
        try simp only [Act.put, List.setIfInBounds_toArray, List.set_cons_zero, List.set_cons_succ]
        refine wpAnyH_take (i := 2) (oi := ⟨some 63, _, _, _, _, _⟩) (v := ?_) rfl (by kernel_rfl) (by kernel_rfl) (by kernel_rfl) (fun _ _ _ h => h) (Or.inl ⟨by rfl, ?_⟩) (by assumption) ?_
        rotate_left
        · intro w hSw; go_simp; first | done | with_reducible rfl
        try simp only [Act.put, List.setIfInBounds_toArray, List.set_cons_zero, List.set_cons_succ]
        refine wpAnyH_take (i := 4) (oi := ⟨some 65, _, _, _, _, _⟩) (v := ?_) rfl (by kernel_rfl) (by kernel_rfl) (by kernel_rfl) (fun _ _ _ h => h) (Or.inl ⟨by rfl, ?_⟩) (by assumption) ?_
        rotate_left
        · intro w hSw; go_simp; first | done | with_reducible rfl
        try simp only [Act.put, List.setIfInBounds_toArray, List.set_cons_zero, List.set_cons_succ]
        refine wpAnyH_take (i := 5) (oi := ⟨some 66, _, _, _, _, _⟩) (v := ?_) rfl (by kernel_rfl) (by kernel_rfl) (by kernel_rfl) (fun _ _ _ h => h) (Or.inl ⟨by rfl, ?_⟩) (by assumption) ?_
        rotate_left
        · intro w hSw; go_simp; first | done | with_reducible rfl
        try simp only [Act.put, List.setIfInBounds_toArray, List.set_cons_zero, List.set_cons_succ]
        refine wpAnyH_ready (rs := [3]) (by kernel_rfl) (by simp) ?_
        refine AllReadyH.cons (o := ⟨some 64, _, _, _, _, _⟩) rfl (fun K hK => ?_) AllReadyH.nil
        go_simp
        refine (HPUT.out _ (RV3.out.below hHeld (Nat.le_refl _))).mono ?_
        rintro e w64 ⟨v64, rfl, h64, b64⟩
        obtain ⟨F, fc, shF⟩ := own_shape h64
        obtain rfl := shF.val
        have SF := Lib.hid shF
        have B64 := Lib.hid b64
        clear h64 shF b64
        go_simp
        refine hK.out _ _ (hHeld.trans (B64.out.mono hHeld.size)) (fun hHeld => ?_)
        clear hK K
        try simp only [Act.put, List.setIfInBounds_toArray, List.set_cons_zero, List.set_cons_succ]
        refine wpAnyH_ready (rs := [6]) (by kernel_rfl) (by simp) ?_
        refine AllReadyH.cons (o := ⟨some 67, _, _, _, _, _⟩) rfl (fun K hK => ?_) AllReadyH.nil
        go_simp
        refine (HPB.out _ _ _ SF.out.rd SF.out.non (RX3.out.below hHeld (Nat.le_refl _))).mono ?_
        rintro e w67 ⟨v67, rfl, h67, b67⟩
        have H67 := Lib.hid (own_base h67 (Nat.le_trans HB3.out.size hHeld.size))
        have B67 := Lib.hid b67
        clear h67 b67
        go_simp
        refine hK.out _ _ (hHeld.trans (B67.out.mono hHeld.size)) (fun hHeld => ?_)
        clear hK K
        try simp only [Act.put, List.setIfInBounds_toArray, List.set_cons_zero, List.set_cons_succ]
        refine wpAnyH_take (i := 7) (oi := ⟨some 5, _, _, _, _, _⟩) (v := ?_) rfl (by kernel_rfl) (by kernel_rfl) (by kernel_rfl) (fun _ _ _ h => h) (Or.inl ⟨by rfl, ?_⟩) (by assumption) ?_
        rotate_left
        · intro w hSw; go_simp; first | done | with_reducible rfl
        try simp only [Act.put, List.setIfInBounds_toArray, List.set_cons_zero, List.set_cons_succ]
        refine wpAnyH_done (by kernel_rfl) ?_ _
        refine NoPanic.normal ?_
        have HB9 := Lib.hid (step0 HB3.out hHeld)
        clear hHeld cy0 cy1
        go_wp2_with fail
        go_roundw
        case rel => exact ⟨k + 1, by omega, by go_num, by rw [HEG.out]; exact H67.out, HX2.out, HB9.out⟩
        case measure => simp [intOf]; omega
    · obtain rfl : k = l.length := by omega
      have hnn : ¬ (l.length : Int) < l.length := by omega
      have hall := HSM.out
      rw [List.take_of_length_le (Nat.le_refl _)] at hall
      have hea2 := HEA.out
      rw [List.take_of_length_le (Nat.le_refl _)] at hea2
      have HALL := Lib.hid hall
      have HEA2 := Lib.hid hea2
      have RV := Lib.hid (Rb.of_own HO.out)
      have HAR := Lib.hid (HA.out.below hbw (Nat.le_refl _))
      have HG := Lib.hid (get_any A b c wr HAR.out (by omega))
      obtain ⟨gl1, gl2, gl3⟩ := get_lt b
      clear hbw hall hea2 HSM HEA
      by_cases he : getE b = 0
      · obtain ⟨g1, g2, g3, g4⟩ := get_has b he
        have HGR : Hid (getR b = .tuple #[.int .u64 (getN b : Int), .int .i64 (getS b : Int), .int .i64 0]) := by show _ = _; unfold getR; rw [he]; rfl
        have HPT : Hid (∀ w, Rb w A b → Calls Try.prog 26 #[.slice none 0 0, .int .u64 (getN b : Int), .slice A (getS b) c] w (boolBelow w)) := fun w h =>
          put_true none A [] (b.take (getS b)) 0 (getS b) 0 c (getN b) _ w rfl (by rw [List.length_take]; omega) rfl (Rb.nil _ _) (fun _ => rfl) (by simp) g4 (h.take _) (by rw [List.nil_append, g2])
        clear g1 g2 g4 he
        unfold big at gl1
        generalize getN b = n at *
        generalize getS b = s at *
        have is1 : (s : Int) ≤ (b.length : Int) := by omega
        have is2 : ¬ ((b.length : Int) < (s : Int)) := by omega
        have is3 : s ≤ c := by omega
        go_wp2_with fail
        refine HG.out.mono ?_
        rintro e w' ⟨rfl, rfl⟩
        rw [HGR.out]
        go_wp2_with fail
        refine (HPT.out _ HAR.out).mono ?_
        rintro e w2 ⟨rfl, hb⟩
        have HB2 := Lib.hid (step0 HBW.out hb)
        have RV2 := Lib.hid (RV.out.below hb (Nat.le_refl _))
        clear hb HG HGR HPT RV HAR
        obtain ⟨wo, rfl⟩ : ∃ wo : World, wo = wr := ⟨_, rfl⟩
        have hgt2 : w2.heap.size ≤ w2.heap.size := Nat.le_refl _
        go_wp2_with fail
        refine (new_any V ea vc _ RV2.out (by omega)).mono ?_
        rintro e w3 ⟨g, rfl, hr, hb⟩
        have RD := Lib.hid hr
        have hgg : W.heap.size ≤ g := Nat.le_trans HB2.out.size (Rdr.ge hr)
        have HB3 := Lib.hid (step0 HB2.out hb)
        clear hr hb RV2 hgt2
        go_wp2_with fail
        go_loopw [95] (fun i wr => ∃ k : Nat, k ≤ l.length ∧ i = .int .i64 (k : Int) ∧ Rdr w2.heap.size wr g (encAll (l.drop k)) ∧ Below W.heap.size W wr) (fun i _ => l.length - (intOf i).toNat)
        case atStart => exact ⟨0, Nat.zero_le _, rfl, by rw [List.drop_zero, ← HEA2.out]; exact RD.out, HB3.out⟩
        case round =>
          obtain ⟨k, hk, rfl, hrd, hbq⟩ := hrel
          have HRD := Lib.hid hrd
          have HBQ := Lib.hid hbq
          have hgl := hrd.lt
          clear hrd
          by_cases hkl : k < l.length
          · obtain ⟨tb, to_, rfl, htb, hcells⟩ := HD.out (by omega)
            obtain ⟨c0, c1⟩ := hcells k hkl
            obtain ⟨hxn, hxa⟩ := HONE.out _ (List.getElem_mem hkl)
            have hx2 := HALL.out _ (List.getElem_mem hkl)
            rw [← hbq.cell (p := ⟨tb, to_ + k * 2, none⟩) htb] at c0
            rw [← hbq.cell (p := ⟨tb, to_ + k * 2 + 1, none⟩) htb] at c1
            have hdr := encAll_drop hkl
            have hlen := encAll_len (l.drop k) (fun y hy => HALL.out y (List.mem_of_mem_drop hy))
            rw [List.length_drop] at hlen
            obtain ⟨cur, hcur⟩ : ∃ cur, cur = encAll (l.drop k) := ⟨_, rfl⟩
            obtain ⟨rest, hrest⟩ : ∃ rest, rest = encAll (l.drop (k + 1)) := ⟨_, rfl⟩
            obtain ⟨x, hx⟩ : ∃ x, x = l[k] := ⟨_, rfl⟩
            rw [← hx] at c0 c1 hxn hxa hx2 hdr
            rw [← hcur] at HRD hdr hlen
            rw [← hrest] at hdr
            have HREST := Lib.hid hrest
            obtain ⟨mid, hmid⟩ : ∃ mid, mid = encN x.p.length ++ x.p ++ rest := ⟨_, rfl⟩
            have hcm2 : cur = encN x.n ++ mid := by rw [hdr, hmid]; unfold encT; simp only [List.append_assoc]
            have hcl2 : cur.length ≤ 10000 := by omega
            have hml : mid.length ≤ 10000 := by rw [hcm2, List.length_append] at hcl2; omega
            have HN1 : Hid ((getN cur : Int) = (x.n : Int)) := by show _ = _; rw [hcm2, (get_put x.n mid hxn).1]
            have HE1 : Hid ((getE cur : Int) = 0) := by show _ = _; rw [hcm2, (get_put x.n mid hxn).2.2]; rfl
            have HD1 : Hid (cur.drop (getS cur) = mid) := by show _ = _; rw [hcm2, (get_put x.n mid hxn).2.1, List.drop_left]
            have hpp : partV mid 200 = (x.p, (encN x.p.length).length + x.p.length, 0) := by rw [hmid]; exact part_put x.p rest 200 (by omega) (by unfold big; omega)
            have HP1 : Hid ((partV mid 200).1 = x.p) := by show _ = _; rw [hpp]
            have HP2 : Hid (((partV mid 200).2.2 : Int) = 0) := by show _ = _; rw [hpp]; rfl
            have HP3 : Hid (mid.drop (partV mid 200).2.1 = rest) := by show _ = _; rw [hpp, hmid, ← List.length_append, List.drop_left]
            have HXA := Lib.hid hxa
            have hxl := Nat.le_trans hxa.le hxa.max
            unfold maxLen at hxl
            have i1 : (k : Int) < l.length := by omega
            obtain ⟨wa, hwa⟩ : ∃ wa, wa = wr.alloc (.cells #[.int .u64 (x.n : Int), .slice x.A x.p.length x.c] 58) := ⟨_, rfl⟩
            have HBa : Hid (Below W.heap.size W wa) := by rw [hwa]; exact HBQ.out.alloc HBQ.out.size _
            have RDa : Hid (Rdr w2.heap.size wa g cur) := by rw [hwa]; exact HRD.out.below ((Below.refl _ _).alloc (Nat.le_refl _) _) (Nat.le_refl _)
            have ca1 : wa.cell? ⟨wr.heap.size, 1, none⟩ = some (.slice x.A x.p.length x.c) := by rw [hwa, cell_of_row _ _ 1 _ _ (0, 0) (heap_alloc_new _ _)]; rfl
            have hla := World.block_lt_of_cell? _ _ ca1
            have CA1 := Lib.hid ca1
            have hgq : g ≠ wr.heap.size := by omega
            clear hx hcells hbq hxa ca1 hdr hcur hrest hmid hcm2 hpp
            go_wp2_with fail
            rw [← hwa]
            clear hwa c0 c1
            refine (number_true _ wa g cur mid _ _ RDa.out (by omega) HN1.out HE1.out HD1.out).mono ?_
            rintro e w5 ⟨rfl, hr, hg⟩
            have RD5 := Lib.hid hr
            have hc5 : w5.cell? ⟨wr.heap.size, 1, none⟩ = some (.slice x.A x.p.length x.c) := by
              rw [World.cell?_of_block (hg.block wr.heap.size hla (by intro e; injection e with e; exact hgq e.symm))]; exact CA1.out
            have HB5 := Lib.hid (stepRd HBa.out hgg hg)
            have hcv := conv_str x.c (HXA.out.rd.below HB5.out (Nat.le_refl _))
            clear hr hg RDa HBa
            go_wp2_with fail
            refine (bytes_true _ w5 g mid x.p rest 200 0 RD5.out (by omega) (by omega) (by omega) HP1.out HP2.out HP3.out).mono ?_
            rintro e w6 ⟨rfl, hr, hg⟩
            have RD6 := Lib.hid hr
            have HB6 := Lib.hid (stepRd HB5.out hgg hg)
            clear hr hg hcv hc5 RD5 HB5
            go_wp2_with fail
            go_roundw
            case rel => exact ⟨k + 1, by omega, by go_num, by rw [← HREST.out]; exact RD6.out, HB6.out⟩
            case measure => simp [intOf]; omega
          · obtain rfl : k = l.length := by omega
            have hnn2 : ¬ (l.length : Int) < l.length := by omega
            have R9 : Hid (Rdr w2.heap.size wr g []) := by
              have := HRD.out
              rw [List.drop_length] at this
              exact this
            clear hbq HRD
            go_wp2_with fail
            refine (left_any _ _ g [] R9.out).mono ?_
            rintro e w' ⟨rfl, rfl⟩
            go_wp2_with fail
            refine (HK.out _).mono ?_
            rintro e w7 ⟨rfl, hb⟩
            have HB7 := Lib.hid (step0 HBQ.out hb); clear hb
            go_wp2_with fail
            go_ret
            exact ⟨rfl, HB7.out⟩

      · have HGR : Hid (getR b = .tuple #[.int .u64 (getN b : Int), .int .i64 (getS b : Int), .int .i64 (getE b : Int)]) := rfl
        have hne : ((getE b : Int) == 0) = false := by rw [beq_eq_false_iff_ne]; omega
        clear he
        generalize getN b = n at *
        generalize getS b = s at *
        generalize getE b = e0 at *
        have HB2 := Lib.hid HBW.out
        have RV2 := Lib.hid RV.out
        go_wp2_with fail
        refine HG.out.mono ?_
        rintro e w' ⟨rfl, rfl⟩
        rw [HGR.out]
        clear HG HGR RV HAR HO HBW
        generalize wr = w2 at *
        have hgt2 : w2.heap.size ≤ w2.heap.size := Nat.le_refl _
        go_wp2_with fail
        refine (new_any V ea vc _ RV2.out (by omega)).mono ?_
        rintro e w3 ⟨g, rfl, hr, hb⟩
        have RD := Lib.hid hr
        have hgg : W.heap.size ≤ g := Nat.le_trans HB2.out.size (Rdr.ge hr)
        have HB3 := Lib.hid (step0 HB2.out hb)
        clear hr hb RV2 hgt2
        go_wp2_with fail
        go_loopw [95] (fun i wr => ∃ k : Nat, k ≤ l.length ∧ i = .int .i64 (k : Int) ∧ Rdr w2.heap.size wr g (encAll (l.drop k)) ∧ Below W.heap.size W wr) (fun i _ => l.length - (intOf i).toNat)
        case atStart => exact ⟨0, Nat.zero_le _, rfl, by rw [List.drop_zero, ← HEA2.out]; exact RD.out, HB3.out⟩
        case round =>
          obtain ⟨k, hk, rfl, hrd, hbq⟩ := hrel
          have HRD := Lib.hid hrd
          have HBQ := Lib.hid hbq
          have hgl := hrd.lt
          clear hrd
          by_cases hkl : k < l.length
          · obtain ⟨tb, to_, rfl, htb, hcells⟩ := HD.out (by omega)
            obtain ⟨c0, c1⟩ := hcells k hkl
            obtain ⟨hxn, hxa⟩ := HONE.out _ (List.getElem_mem hkl)
            have hx2 := HALL.out _ (List.getElem_mem hkl)
            rw [← hbq.cell (p := ⟨tb, to_ + k * 2, none⟩) htb] at c0
            rw [← hbq.cell (p := ⟨tb, to_ + k * 2 + 1, none⟩) htb] at c1
            have hdr := encAll_drop hkl
            have hlen := encAll_len (l.drop k) (fun y hy => HALL.out y (List.mem_of_mem_drop hy))
            rw [List.length_drop] at hlen
            obtain ⟨cur, hcur⟩ : ∃ cur, cur = encAll (l.drop k) := ⟨_, rfl⟩
            obtain ⟨rest, hrest⟩ : ∃ rest, rest = encAll (l.drop (k + 1)) := ⟨_, rfl⟩
            obtain ⟨x, hx⟩ : ∃ x, x = l[k] := ⟨_, rfl⟩
            rw [← hx] at c0 c1 hxn hxa hx2 hdr
            rw [← hcur] at HRD hdr hlen
            rw [← hrest] at hdr
            have HREST := Lib.hid hrest
            obtain ⟨mid, hmid⟩ : ∃ mid, mid = encN x.p.length ++ x.p ++ rest := ⟨_, rfl⟩
            have hcm2 : cur = encN x.n ++ mid := by rw [hdr, hmid]; unfold encT; simp only [List.append_assoc]
            have hcl2 : cur.length ≤ 10000 := by omega
            have hml : mid.length ≤ 10000 := by rw [hcm2, List.length_append] at hcl2; omega
            have HN1 : Hid ((getN cur : Int) = (x.n : Int)) := by show _ = _; rw [hcm2, (get_put x.n mid hxn).1]
            have HE1 : Hid ((getE cur : Int) = 0) := by show _ = _; rw [hcm2, (get_put x.n mid hxn).2.2]; rfl
            have HD1 : Hid (cur.drop (getS cur) = mid) := by show _ = _; rw [hcm2, (get_put x.n mid hxn).2.1, List.drop_left]
            have hpp : partV mid 200 = (x.p, (encN x.p.length).length + x.p.length, 0) := by rw [hmid]; exact part_put x.p rest 200 (by omega) (by unfold big; omega)
            have HP1 : Hid ((partV mid 200).1 = x.p) := by show _ = _; rw [hpp]
            have HP2 : Hid (((partV mid 200).2.2 : Int) = 0) := by show _ = _; rw [hpp]; rfl
            have HP3 : Hid (mid.drop (partV mid 200).2.1 = rest) := by show _ = _; rw [hpp, hmid, ← List.length_append, List.drop_left]
            have HXA := Lib.hid hxa
            have hxl := Nat.le_trans hxa.le hxa.max
            unfold maxLen at hxl
            have i1 : (k : Int) < l.length := by omega
            obtain ⟨wa, hwa⟩ : ∃ wa, wa = wr.alloc (.cells #[.int .u64 (x.n : Int), .slice x.A x.p.length x.c] 58) := ⟨_, rfl⟩
            have HBa : Hid (Below W.heap.size W wa) := by rw [hwa]; exact HBQ.out.alloc HBQ.out.size _
            have RDa : Hid (Rdr w2.heap.size wa g cur) := by rw [hwa]; exact HRD.out.below ((Below.refl _ _).alloc (Nat.le_refl _) _) (Nat.le_refl _)
            have ca1 : wa.cell? ⟨wr.heap.size, 1, none⟩ = some (.slice x.A x.p.length x.c) := by rw [hwa, cell_of_row _ _ 1 _ _ (0, 0) (heap_alloc_new _ _)]; rfl
            have hla := World.block_lt_of_cell? _ _ ca1
            have CA1 := Lib.hid ca1
            have hgq : g ≠ wr.heap.size := by omega
            clear hx hcells hbq hxa ca1 hdr hcur hrest hmid hcm2 hpp
            go_wp2_with fail
            rw [← hwa]
            clear hwa c0 c1
            refine (number_true _ wa g cur mid _ _ RDa.out (by omega) HN1.out HE1.out HD1.out).mono ?_
            rintro e w5 ⟨rfl, hr, hg⟩
            have RD5 := Lib.hid hr
            have hc5 : w5.cell? ⟨wr.heap.size, 1, none⟩ = some (.slice x.A x.p.length x.c) := by
              rw [World.cell?_of_block (hg.block wr.heap.size hla (by intro e; injection e with e; exact hgq e.symm))]; exact CA1.out
            have HB5 := Lib.hid (stepRd HBa.out hgg hg)
            have hcv := conv_str x.c (HXA.out.rd.below HB5.out (Nat.le_refl _))
            clear hr hg RDa HBa
            go_wp2_with fail
            refine (bytes_true _ w5 g mid x.p rest 200 0 RD5.out (by omega) (by omega) (by omega) HP1.out HP2.out HP3.out).mono ?_
            rintro e w6 ⟨rfl, hr, hg⟩
            have RD6 := Lib.hid hr
            have HB6 := Lib.hid (stepRd HB5.out hgg hg)
            clear hr hg hcv hc5 RD5 HB5
            go_wp2_with fail
            go_roundw
            case rel => exact ⟨k + 1, by omega, by go_num, by rw [← HREST.out]; exact RD6.out, HB6.out⟩
            case measure => simp [intOf]; omega
          · obtain rfl : k = l.length := by omega
            have hnn2 : ¬ (l.length : Int) < l.length := by omega
            have R9 : Hid (Rdr w2.heap.size wr g []) := by
              have := HRD.out
              rw [List.drop_length] at this
              exact this
            clear hbq HRD
            go_wp2_with fail
            refine (left_any _ _ g [] R9.out).mono ?_
            rintro e w' ⟨rfl, rfl⟩
            go_wp2_with fail
            refine (HK.out _).mono ?_
            rintro e w7 ⟨rfl, hb⟩
            have HB7 := Lib.hid (step0 HBQ.out hb); clear hb
            go_wp2_with fail
            go_ret
            exact ⟨rfl, HB7.out⟩

set_option maxRecDepth 100000 in
set_option maxHeartbeats 1000000 in
theorem holds_walk (A D : Option Addr) (l : List Th) (b : Bs) (c d : Nat) (W : World) (hb : Things W D l d) (ha : Arg W A b c) :
    Calls Try.prog 8 #[.slice D l.length d, .slice A b.length c] W (boolBelow W) := by
  have HK := known_hid
  have hl := Nat.le_trans ha.le ha.max
  have hp := Nat.le_trans hb.le hb.max
  unfold maxLen at hl hp
  have hc : (l.length ≤ 20 ∧ b.length ≤ 300) ∨ 20 < l.length ∨ (l.length ≤ 20 ∧ 300 < b.length) := by omega
  rcases hc with ⟨h1, h2⟩ | h1 | ⟨h1, h2⟩
  · exact holds_main A D l b c d W ha hb h2 h1
  · have h1' : (20 : Int) < (l.length : Int) := by omega
    clear ha hb h1
    go_enter Try.func8, Try.ntmps8
    go_wp2_with fail
    refine (HK.out _).mono ?_
    rintro e w1 ⟨rfl, hb⟩
    go_wp2_with fail
    go_ret
    exact ⟨rfl, hb⟩
  · have h1' : (l.length : Int) ≤ 20 := by omega
    have h2' : (300 : Int) < (b.length : Int) := by omega
    clear ha hb h1 h2
    go_enter Try.func8, Try.ntmps8
    go_wp2_with fail
    refine (HK.out _).mono ?_
    rintro e w1 ⟨rfl, hb⟩
    go_wp2_with fail
    go_ret
    exact ⟨rfl, hb⟩
end Go.Proofs.Ytngeocacbegjkaa.Vz
