/- Proves what the specification's Write returns, and the law's spoil. Conditions: a command of bounded parts. -/
import Derived.Test.YtefadkdngcbpiaaDoorQza
import Derived.Test.YtefadkdngcbpiaaDoorRg
namespace Go.Proofs.YtefadkdngcbpiaaDoor.Qzb
open Go.RowKit Vm Ap Vw Va Vab Vr Vrb Gc Mi Mb Qm Qs Qe Qo Qc Qn Qza Qj Rg Qjd

def rwPost (w : World) (x : Com) : Ending → World → Prop := fun e w' =>
  ∃ A k, e = .returned (.agg #[.int .u8 (x.c.op % 256), .slice A (payR x.c).length k]) ∧ Fre w.heap.size w' A (payR x.c) k ∧ Below w.heap.size w w'
theorem bytesR_len {c : Cmd} (hb : Bnd c) (h40 : c.tags.length ≤ 40 ∧ c.keys.length ≤ 40) (y : UInt8) : (bytesR c y).length ≤ 40000410 := by
  have h1 := encS_len c.key hb.key
  have h2 := encS_len c.value hb.value
  have h3 := encS_len c.tag hb.tag
  have h4 := encS_len c.pre hb.pre
  have h5 := encS_len c.child hb.child
  have h6 := encL_len c.tags hb.eachT h40.1
  have h7 := encL_len c.keys hb.eachK h40.2
  have h8 := enc_le c.life hb.life
  have h9 := enc_le c.version hb.version
  unfold bytesR
  repeat' split
  all_goals omega
theorem flatR_len {c : Cmd} (hb : Bnd c) (h40 : c.tags.length ≤ 40 ∧ c.keys.length ≤ 40) : ∀ ls : Bs, (ls.flatMap (bytesR c)).length ≤ ls.length * 40000410
  | [] => by simp
  | y :: ls => by
    rw [List.flatMap_cons, List.length_append, List.length_cons]
    have := flatR_len hb h40 ls
    have := bytesR_len hb h40 y
    omega
set_option maxRecDepth 100000 in
set_option maxHeartbeats 4000000 in
theorem rwr_any (x : Com) (w : World) (hr : Rc w x) (hb : Bnd x.c) (h40 : x.c.tags.length ≤ 40 ∧ x.c.keys.length ≤ 40) :
    Calls Tryd.prog 23 #[comV x] w (rwPost w x) := by
  obtain ⟨C, hC⟩ : ∃ C, C = w.heap.size := ⟨_, rfl⟩
  obtain ⟨w0, hw0⟩ : ∃ w0, w0 = w.alloc (comO x) := ⟨_, rfl⟩
  have B0 : Below w.heap.size w w0 := by rw [hw0]; exact alloc_below _ _
  have bx : Box w0 C x := by rw [hw0, hC]; exact Box.new _ _
  have hs0 : w0.heap.size = C + 1 := by rw [hw0, hC]; simp
  have HB0 := Lib.hid B0
  have HNE := Lib.hid (fun W => needs_any x.c.op W)
  have HNI := Lib.hid (needs_nine x.c.op)
  have HN5 := needs_len x.c.op
  have HPAY : Hid ((needs x.c.op).flatMap (bytesR x.c) = payR x.c) := rfl
  have HFL := Lib.hid (flatR_len hb h40)
  have HBL := Lib.hid (bytesR_len hb h40)
  have HBY : Hid (∀ y, y ∈ nine → ∀ W, Below C w W → Calls Tryd.prog 41 #[comV x, .int .u8 (y.toNat : Int)] W (bytesPost W (bytesR x.c y))) := fun y hy W h => rbytes_any x y hy W (by rw [hC] at h; exact hr.below h (Nat.le_refl _)) hb h40
  unfold needsS at HNE
  unfold comV at HBY ⊢
  unfold comO at hw0
  obtain ⟨c0, c1, c2, c3, c4, c5, c6, c7, c8, c9, _⟩ := bx
  obtain ⟨wA, hwA⟩ : ∃ wA, wA = (w0.alloc (.cells #[.int .u8 0, .slice none 0 0] 42)).alloc (.cells #[.int .u8 (x.c.op % 256), .slice none 0 0] 42) := ⟨_, rfl⟩
  have bA : Below w0.heap.size w0 wA := by rw [hwA]; exact two_below _ _ _
  have hsA : wA.heap.size = C + 3 := by rw [hwA]; simp; omega
  have CR : Hid (Cel wA (C + 1) (.int .u8 0) (.slice none 0 0)) := by
    have h := (Cel.new w0 (.int .u8 0) (.slice none 0 0) 42).below (below_new _ (.cells #[.int .u8 (x.c.op % 256), .slice none 0 0] 42)) (Nat.le_refl _)
    rw [hs0] at h; rw [← hwA] at h; exact h
  have CF : Hid (Cel wA (C + 2) (.int .u8 (x.c.op % 256)) (.slice none 0 0)) := by
    have h := Cel.new (w0.alloc (.cells #[.int .u8 0, .slice none 0 0] 42)) (.int .u8 (x.c.op % 256)) (.slice none 0 0) 42
    have e : (w0.alloc (.cells #[.int .u8 0, .slice none 0 0] 42)).heap.size = C + 2 := by simp; omega
    rw [e] at h; rw [← hwA] at h; exact h
  have a0 : wA.cell? ⟨C, 0, none⟩ = some (.int .i64 x.c.op) := by rw [bA.cell (p := ⟨C, 0, none⟩) (by rw [hs0]; show C < C + 1; omega)]; exact c0
  have a1 : wA.cell? ⟨C, 1, none⟩ = some (.string ⟨x.c.key.toArray⟩) := by rw [bA.cell (p := ⟨C, 1, none⟩) (by rw [hs0]; show C < C + 1; omega)]; exact c1
  have a2 : wA.cell? ⟨C, 2, none⟩ = some (.slice x.KA x.c.keys.length x.kc) := by rw [bA.cell (p := ⟨C, 2, none⟩) (by rw [hs0]; show C < C + 1; omega)]; exact c2
  have a3 : wA.cell? ⟨C, 3, none⟩ = some (.slice x.VA x.c.value.length x.vc) := by rw [bA.cell (p := ⟨C, 3, none⟩) (by rw [hs0]; show C < C + 1; omega)]; exact c3
  have a4 : wA.cell? ⟨C, 4, none⟩ = some (.slice x.TA x.c.tags.length x.tc) := by rw [bA.cell (p := ⟨C, 4, none⟩) (by rw [hs0]; show C < C + 1; omega)]; exact c4
  have a5 : wA.cell? ⟨C, 5, none⟩ = some (.int .u64 (x.c.life : Int)) := by rw [bA.cell (p := ⟨C, 5, none⟩) (by rw [hs0]; show C < C + 1; omega)]; exact c5
  have a6 : wA.cell? ⟨C, 6, none⟩ = some (.int .u64 (x.c.version : Int)) := by rw [bA.cell (p := ⟨C, 6, none⟩) (by rw [hs0]; show C < C + 1; omega)]; exact c6
  have a7 : wA.cell? ⟨C, 7, none⟩ = some (.string ⟨x.c.tag.toArray⟩) := by rw [bA.cell (p := ⟨C, 7, none⟩) (by rw [hs0]; show C < C + 1; omega)]; exact c7
  have a8 : wA.cell? ⟨C, 8, none⟩ = some (.string ⟨x.c.pre.toArray⟩) := by rw [bA.cell (p := ⟨C, 8, none⟩) (by rw [hs0]; show C < C + 1; omega)]; exact c8
  have a9 : wA.cell? ⟨C, 9, none⟩ = some (.string ⟨x.c.child.toArray⟩) := by rw [bA.cell (p := ⟨C, 9, none⟩) (by rw [hs0]; show C < C + 1; omega)]; exact c9
  have HBA : Hid (Below C w wA) := by show Below _ _ _; rw [hC]; exact B0.trans (bA.mono B0.size)
  have HR0 : Hid (∀ v, Below (C + 2) wA v → v.cell? ⟨C + 1, 0, none⟩ = some (.int .u8 0) ∧ v.cell? ⟨C + 1, 1, none⟩ = some (.slice none 0 0) ∧ v.frozen? ⟨C + 1, 0, none⟩ = false ∧ v.frozen? ⟨C + 1, 1, none⟩ = false) := fun v h =>
    ⟨by rw [h.cell (p := ⟨C + 1, 0, none⟩) (by show C + 1 < C + 2; omega)]; exact CR.out.c0, by rw [h.cell (p := ⟨C + 1, 1, none⟩) (by show C + 1 < C + 2; omega)]; exact CR.out.c1, by rw [h.frozen (p := ⟨C + 1, 0, none⟩) (by show C + 1 < C + 2; omega)]; exact CR.out.f0, by rw [h.frozen (p := ⟨C + 1, 1, none⟩) (by show C + 1 < C + 2; omega)]; exact CR.out.f1⟩
  have hlC : ∀ n : Nat, C < C + 2 := fun _ => by omega
  have k0 : ∀ v, Below (C + 2) wA v → v.cell? ⟨C, 0, none⟩ = some (.int .i64 x.c.op) := fun v h => by rw [h.cell (p := ⟨C, 0, none⟩) (hlC 0)]; exact a0
  have k1 : ∀ v, Below (C + 2) wA v → v.cell? ⟨C, 1, none⟩ = some (.string ⟨x.c.key.toArray⟩) := fun v h => by rw [h.cell (p := ⟨C, 1, none⟩) (hlC 0)]; exact a1
  have k2 : ∀ v, Below (C + 2) wA v → v.cell? ⟨C, 2, none⟩ = some (.slice x.KA x.c.keys.length x.kc) := fun v h => by rw [h.cell (p := ⟨C, 2, none⟩) (hlC 0)]; exact a2
  have k3 : ∀ v, Below (C + 2) wA v → v.cell? ⟨C, 3, none⟩ = some (.slice x.VA x.c.value.length x.vc) := fun v h => by rw [h.cell (p := ⟨C, 3, none⟩) (hlC 0)]; exact a3
  have k4 : ∀ v, Below (C + 2) wA v → v.cell? ⟨C, 4, none⟩ = some (.slice x.TA x.c.tags.length x.tc) := fun v h => by rw [h.cell (p := ⟨C, 4, none⟩) (hlC 0)]; exact a4
  have k5 : ∀ v, Below (C + 2) wA v → v.cell? ⟨C, 5, none⟩ = some (.int .u64 (x.c.life : Int)) := fun v h => by rw [h.cell (p := ⟨C, 5, none⟩) (hlC 0)]; exact a5
  have k6 : ∀ v, Below (C + 2) wA v → v.cell? ⟨C, 6, none⟩ = some (.int .u64 (x.c.version : Int)) := fun v h => by rw [h.cell (p := ⟨C, 6, none⟩) (hlC 0)]; exact a6
  have k7 : ∀ v, Below (C + 2) wA v → v.cell? ⟨C, 7, none⟩ = some (.string ⟨x.c.tag.toArray⟩) := fun v h => by rw [h.cell (p := ⟨C, 7, none⟩) (hlC 0)]; exact a7
  have k8 : ∀ v, Below (C + 2) wA v → v.cell? ⟨C, 8, none⟩ = some (.string ⟨x.c.pre.toArray⟩) := fun v h => by rw [h.cell (p := ⟨C, 8, none⟩) (hlC 0)]; exact a8
  have k9 : ∀ v, Below (C + 2) wA v → v.cell? ⟨C, 9, none⟩ = some (.string ⟨x.c.child.toArray⟩) := fun v h => by rw [h.cell (p := ⟨C, 9, none⟩) (hlC 0)]; exact a9
  go_enter Tryd.func23, Tryd.ntmps23
  go_upto_region 1 with fail
  rw [← hw0, ← hC]
  have HC := Lib.hid hC
  have HSA := Lib.hid hsA
  clear hw0 hC hsA bA
  go_wp2_with fail
  rw [← hwA]
  clear hwA c0 c1 c2 c3 c4 c5 c6 c7 c8 c9 a0 a1 a2 a3 a4 a5 a6 a7 a8 a9 hs0 B0 CR hlC hr hb h40
  refine (HNE.out _).mono ?_
  rintro e wx ⟨rfl, rfl⟩
  generalize needs x.c.op = ls at *
  have hll : ls.length ≤ 9223372036854775807 := by omega
  obtain ⟨code, hcode⟩ : ∃ code, code = x.c.op % 256 := ⟨_, rfl⟩
  rw [← hcode] at CF ⊢
  have HCODE := Lib.hid hcode
  clear hcode
  go_wp2_with fail
  go_loopw [5] (fun i wr => ∃ (k : Nat) (U : Option Addr) (uc : Nat), k ≤ ls.length ∧ i = .int .i64 (k : Int) ∧ Cel wr (C + 2) (.int .u8 code) (.slice U ((ls.take k).flatMap (bytesR x.c)).length uc) ∧ Own (C + 3) wr (.slice U ((ls.take k).flatMap (bytesR x.c)).length uc) ((ls.take k).flatMap (bytesR x.c)) ∧ Below (C + 2) wA wr) (fun i _ => ls.length - (intOf i).toNat)
  case atStart => exact ⟨0, none, 0, Nat.zero_le _, rfl, CF.out, own_nil _ _, Below.refl _ _⟩
  case round =>
    obtain ⟨k, U, uc, hkl, rfl, hcel, hown, hbw⟩ := hrel
    obtain ⟨wo, rfl⟩ : ∃ wo : World, wo = wr := ⟨_, rfl⟩
    have HCEL := Lib.hid hcel
    have HO := Lib.hid hown
    have HBW := Lib.hid hbw
    have hzo := hbw.size
    clear hcel hown hbw
    by_cases hlt : k < ls.length
    · have hi := fun W => idx_let ls k hlt W
      have i1 : (k : Int) < ls.length := by omega
      have HFT : Hid ((ls.take (k + 1)).flatMap (bytesR x.c) = (ls.take k).flatMap (bytesR x.c) ++ bytesR x.c ls[k]) := by show _ = _; rw [List.take_succ_eq_append_getElem hlt, List.flatMap_append]; simp
      have HPL := HFL.out (ls.take k)
      have htk : (ls.take k).length ≤ 5 := by rw [List.length_take]; omega
      have hBY := HBY.out _ (HNI.out _ (List.getElem_mem hlt))
      obtain ⟨y, hy⟩ : ∃ y, y = ls[k] := ⟨_, rfl⟩
      rw [← hy] at hi HFT hBY
      have HBY1 := Lib.hid hBY
      have hyl := y.toNat_lt
      have hbl := HBL.out y
      obtain ⟨bs, hbs⟩ : ∃ bs, bs = bytesR x.c y := ⟨_, rfl⟩
      rw [← hbs] at HFT HBY1 hbl
      obtain ⟨pre, hpre⟩ : ∃ pre, pre = (ls.take k).flatMap (bytesR x.c) := ⟨_, rfl⟩
      rw [← hpre] at HCEL HO HPL HFT
      have hpl : pre.length ≤ 1000000000 := by omega
      have S2 : Hid (∀ v, Below (C + 3) wo v → Below (C + 2) wA v) := fun v h => HBW.out.trans (h.mono (by omega))
      have m0 : ∀ v, Below (C + 3) wo v → v.cell? ⟨C, 0, none⟩ = some (.int .i64 x.c.op) := fun v h => k0 v (S2.out v h)
      have m1 : ∀ v, Below (C + 3) wo v → v.cell? ⟨C, 1, none⟩ = some (.string ⟨x.c.key.toArray⟩) := fun v h => k1 v (S2.out v h)
      have m2 : ∀ v, Below (C + 3) wo v → v.cell? ⟨C, 2, none⟩ = some (.slice x.KA x.c.keys.length x.kc) := fun v h => k2 v (S2.out v h)
      have m3 : ∀ v, Below (C + 3) wo v → v.cell? ⟨C, 3, none⟩ = some (.slice x.VA x.c.value.length x.vc) := fun v h => k3 v (S2.out v h)
      have m4 : ∀ v, Below (C + 3) wo v → v.cell? ⟨C, 4, none⟩ = some (.slice x.TA x.c.tags.length x.tc) := fun v h => k4 v (S2.out v h)
      have m5 : ∀ v, Below (C + 3) wo v → v.cell? ⟨C, 5, none⟩ = some (.int .u64 (x.c.life : Int)) := fun v h => k5 v (S2.out v h)
      have m6 : ∀ v, Below (C + 3) wo v → v.cell? ⟨C, 6, none⟩ = some (.int .u64 (x.c.version : Int)) := fun v h => k6 v (S2.out v h)
      have m7 : ∀ v, Below (C + 3) wo v → v.cell? ⟨C, 7, none⟩ = some (.string ⟨x.c.tag.toArray⟩) := fun v h => k7 v (S2.out v h)
      have m8 : ∀ v, Below (C + 3) wo v → v.cell? ⟨C, 8, none⟩ = some (.string ⟨x.c.pre.toArray⟩) := fun v h => k8 v (S2.out v h)
      have m9 : ∀ v, Below (C + 3) wo v → v.cell? ⟨C, 9, none⟩ = some (.string ⟨x.c.child.toArray⟩) := fun v h => k9 v (S2.out v h)
      have f1 : ∀ v, Below (C + 3) wo v → v.cell? ⟨C + 2, 1, none⟩ = some (.slice U pre.length uc) := fun v h => by rw [h.cell (p := ⟨C + 2, 1, none⟩) (by show C + 2 < C + 3; omega)]; exact HCEL.out.c1
      have HF1 : Hid (∀ v, Below (C + 3) wo v → Cel v (C + 2) (.int .u8 code) (.slice U pre.length uc)) := fun v h => ⟨by rw [h.cell (p := ⟨C + 2, 0, none⟩) (by show C + 2 < C + 3; omega)]; exact HCEL.out.c0, by rw [h.cell (p := ⟨C + 2, 1, none⟩) (by show C + 2 < C + 3; omega)]; exact HCEL.out.c1, by rw [h.frozen (p := ⟨C + 2, 0, none⟩) (by show C + 2 < C + 3; omega)]; exact HCEL.out.f0, by rw [h.frozen (p := ⟨C + 2, 1, none⟩) (by show C + 2 < C + 3; omega)]; exact HCEL.out.f1⟩
      have hsA := HSA.out
      have HZO : Hid (C + 3 ≤ wo.heap.size) := by show _ ≤ _; omega
      clear hy hbs hpre hBY htk HPL k0 k1 k2 k3 k4 k5 k6 k7 k8 k9 HFL HBL
      go_wp2_with fail
      refine wp_region_noPanic ?_
      refine wp_region_G 8 (fun v => Below (C + 3) wo v) (by kernel_rfl) ?_
      obtain ⟨v0, hv0⟩ : ∃ v0, v0 = wo.drew := ⟨_, rfl⟩
      rw [← hv0]
      have OV : Hid (Below (C + 3) wo v0) := by show Below _ _ _; rw [hv0]; exact (Below.refl _ _).drew
      have HOV : Hid (Own (C + 3) v0 (.slice U pre.length uc) pre) := by show Own _ _ _ _; rw [hv0]; exact own_drew HO.out
      clear hv0
      refine wpAnyG_take (i := 0) (oi := ⟨some 19, _, _, _, _, _⟩) (v := ?_) rfl (by kernel_rfl) (by kernel_rfl) (by kernel_rfl) (by kernel_rfl) (by kernel_rfl) (fun _ _ _ h => h) (Or.inl ⟨by rfl, ?_⟩) (OV.out) ?_
      rotate_left
      · intro w hSw; go_simp; first | done | with_reducible rfl
      try simp only [Act.put, List.setIfInBounds_toArray, List.set_cons_zero, List.set_cons_succ]
      refine wpAnyG_take (i := 1) (oi := ⟨some 20, _, _, _, _, _⟩) (v := ?_) rfl (by kernel_rfl) (by kernel_rfl) (by kernel_rfl) (by kernel_rfl) (by kernel_rfl) (fun _ _ _ h => h) (Or.inl ⟨by rfl, ?_⟩) (OV.out) ?_
      rotate_left
      · intro w hSw; go_simp; first | done | with_reducible rfl
      try simp only [Act.put, List.setIfInBounds_toArray, List.set_cons_zero, List.set_cons_succ]
      refine wpAnyG_take (i := 2) (oi := ⟨some 21, _, _, _, _, _⟩) (v := ?_) rfl (by kernel_rfl) (by kernel_rfl) (by kernel_rfl) (by kernel_rfl) (by kernel_rfl) (fun _ _ _ h => h) (Or.inl ⟨by rfl, ?_⟩) (OV.out) ?_
      rotate_left
      · intro w hSw; go_simp; first | done | with_reducible rfl
      try simp only [Act.put, List.setIfInBounds_toArray, List.set_cons_zero, List.set_cons_succ]
      refine wpAnyG_take (i := 3) (oi := ⟨some 22, _, _, _, _, _⟩) (v := ?_) rfl (by kernel_rfl) (by kernel_rfl) (by kernel_rfl) (by kernel_rfl) (by kernel_rfl) (fun _ _ _ h => h) (Or.inl ⟨by rfl, ?_⟩) (OV.out) ?_
      rotate_left
      · intro w hSw; go_simp; first | done | with_reducible rfl
      try simp only [Act.put, List.setIfInBounds_toArray, List.set_cons_zero, List.set_cons_succ]
      refine wpAnyG_take (i := 4) (oi := ⟨some 23, _, _, _, _, _⟩) (v := ?_) rfl (by kernel_rfl) (by kernel_rfl) (by kernel_rfl) (by kernel_rfl) (by kernel_rfl) (fun _ _ _ h => h) (Or.inl ⟨by rfl, ?_⟩) (OV.out) ?_
      rotate_left
      · intro w hSw; go_simp; first | done | with_reducible rfl
      try simp only [Act.put, List.setIfInBounds_toArray, List.set_cons_zero, List.set_cons_succ]
      refine wpAnyG_take (i := 5) (oi := ⟨some 24, _, _, _, _, _⟩) (v := ?_) rfl (by kernel_rfl) (by kernel_rfl) (by kernel_rfl) (by kernel_rfl) (by kernel_rfl) (fun _ _ _ h => h) (Or.inl ⟨by rfl, ?_⟩) (OV.out) ?_
      rotate_left
      · intro w hSw; go_simp; first | done | with_reducible rfl
      try simp only [Act.put, List.setIfInBounds_toArray, List.set_cons_zero, List.set_cons_succ]
      refine wpAnyG_ready (rs := [6]) (by kernel_rfl) (by simp) ?_
      refine AllReadyG.cons (o := ⟨some 25, _, _, _, _, _⟩) rfl (fun K hK => ?_) AllReadyG.nil
      go_simp
      with_reducible refine (HBY1.out v0 ((HBA.out.trans ((S2.out v0 OV.out).mono (by omega))))).mono ?_
      rintro e v1 ⟨P, rfl, h1, b1⟩
      have hz0 : C + 3 ≤ v0.heap.size := Nat.le_trans HZO.out OV.out.size
      obtain ⟨PA, pc, sp⟩ := own_shape h1
      obtain rfl := sp.val
      have SP := Lib.hid sp
      have OV1 : Hid (Below (C + 3) wo v1) := OV.out.trans (b1.mono hz0)
      have hz1 : C + 3 ≤ v1.heap.size := Nat.le_trans HZO.out OV1.out.size
      have HO0 : Hid (Own (C + 3) v1 (.slice U pre.length uc) pre) := own_below HOV.out b1 (Nat.le_refl _)
      clear h1 b1 sp
      go_simp
      refine hK.out _ _ (fun _ => OV1.out) ?_
      clear hK K
      try simp only [Act.put, List.setIfInBounds_toArray, List.set_cons_zero, List.set_cons_succ]
      refine wpAnyG_ready (rs := [7]) (by kernel_rfl) (by simp) ?_
      refine AllReadyG.cons (o := ⟨some 26, _, _, _, _, _⟩) rfl (fun K hK => ?_) AllReadyG.nil
      refine step_from rfl _ _ rfl rfl HO0.out bs PA pc rfl SP.out.non SP.out.rd hpl (by omega) hz1 ?_
      intro v' v2 h2 g2
      obtain ⟨U2, uc2, s2⟩ := own_shape h2
      obtain rfl := s2.val
      have H2 := Lib.hid h2
      have OV2 : Hid (Below (C + 3) wo v2) := OV1.out.grown g2 hz1 (fun j e => (World.ownsRow.lt HO0.out j e).1)
      clear h2 g2 s2
      refine hK.out _ _ (fun _ => OV2.out) ?_
      clear hK K
      try simp only [Act.put, List.setIfInBounds_toArray, List.set_cons_zero, List.set_cons_succ]
      obtain ⟨q0, q1, g0, g1⟩ := HF1.out v2 OV2.out
      refine wpAnyG_ready (rs := [8]) (by kernel_rfl) (by simp) ?_
      refine AllReadyG.cons (o := ⟨some 27, _, _, _, _, _⟩) rfl (fun K hK => ?_) AllReadyG.nil
      go_simp
      refine hK.out _ _ (fun h => absurd h (by omega)) ?_
      clear hK K
      try simp only [Act.put, List.setIfInBounds_toArray, List.set_cons_zero, List.set_cons_succ]
      refine wpAnyG_ready (rs := [9]) (by kernel_rfl) (by simp) ?_
      refine AllReadyG.cons (o := ⟨none, _, _, _, _, _⟩) rfl (fun K hK => ?_) AllReadyG.nil
      go_simp
      refine hK.out _ _ (fun h => absurd h (by omega)) ?_
      clear hK K
      try simp only [Act.put, List.setIfInBounds_toArray, List.set_cons_zero, List.set_cons_succ]
      refine wpAnyG_done (by kernel_rfl) ?_ _
      refine NoPanic.normal ?_
      go_wp2_with fail
      go_roundw
      case rel =>
        refine ⟨k + 1, U2, uc2, by omega, by go_num, ?_, ?_, ?_⟩
        · rw [HFT.out]; exact ⟨by simp [go_sem, q0], by simp [go_sem, q1], by simp [go_sem, g0], by simp [go_sem, g1]⟩
        · rw [HFT.out]; exact own_only H2.out ((Only.refl (fun j => j = C + 2) v2).put rfl _) (fun j hj e => by omega)
        · exact (S2.out v2 OV2.out).setCell (by simp) _
      case measure => simp [intOf]; omega
    · obtain rfl : k = ls.length := by omega
      have hnn : ¬ (ls.length : Int) < ls.length := by omega
      rw [List.take_length, HPAY.out] at HCEL HO
      obtain ⟨q0, q1, g0, g1⟩ := HCEL.out
      obtain ⟨r0, r1, rf0, rf1⟩ := HR0.out _ HBW.out
      have hb1 : C + 1 < wo.heap.size := by have := HSA.out; omega
      clear k0 k1 k2 k3 k4 k5 k6 k7 k8 k9 HFL HBL
      go_wp2_with fail
      refine bodyPost_ret (v := .agg #[.int .u8 code, .slice U (payR x.c).length uc]) (by simp [results, Tryd.results23, go_sem, r0, r1]) rfl ⟨U, uc, by rw [HCODE.out], ?_, ?_⟩
      · have hsh := HO.out
        have hCw := HC.out
        obtain ⟨U', uc', s3⟩ := own_shape hsh
        obtain e3 := s3.val
        simp only [Value.slice.injEq, true_and] at e3
        obtain ⟨rfl, rfl⟩ := e3
        refine ⟨rb_only s3.rd (((Only.refl (fun j => j = C + 1) wo).put rfl _).put rfl _) (fun a ha e => by have := (s3.base a ha).1; omega), s3.non, fun a ha => ?_⟩
        have := s3.base a ha
        exact ⟨by omega, by simp; omega⟩
      · have hCw := HC.out
        have h1 := (HBA.out.trans (HBW.out.mono (by omega)))
        rw [hCw] at h1
        exact (h1.setCell (by show w.heap.size ≤ C + 1; omega) _).setCell (by show w.heap.size ≤ C + 1; omega) _
theorem ows_cell {B g cap n : Nat} {w : World} {m : List Bs} (hn : m.length = n) (h : Ows B w (.slice (some ⟨g, 0, none⟩) n cap) m) {k : Nat} (hk : k < m.length) : w.cell? ⟨g, k, none⟩ = some (strV m[k]) ∧ w.frozen? ⟨g, k, none⟩ = false := by
  subst hn
  have h' : w.ownsRow B 9 1 (.slice (some ⟨g, 0, none⟩) m.length cap) m.length (m.map strV) := h
  refine ⟨?_, h'.frozenAt k⟩
  rw [h'.cellAt k (by omega), List.getElem?_map, List.getElem?_eq_getElem hk]; rfl
theorem ows_store {B g cap n : Nat} {w : World} {m : List Bs} (hn : m.length = n) (h : Ows B w (.slice (some ⟨g, 0, none⟩) n cap) m) (k : Nat) (s : Bs) :
    Ows B (w.setCell ⟨g, k, none⟩ (strV s)) (.slice (some ⟨g, 0, none⟩) n cap) (m.set k s) := by
  subst hn
  have h' : w.ownsRow B 9 1 (.slice (some ⟨g, 0, none⟩) m.length cap) m.length (m.map strV) := h
  have := (h'.stored k (strV s)).1
  unfold Ows
  rw [List.length_set, List.map_set]
  exact this
/-- Blocks from B on, before N. -/
def Mid (B N : Nat) (j : Nat) : Prop := B ≤ j ∧ j < N
def spoilPost (B N : Nat) (w : World) : Ending → World → Prop := fun e w' => e = .returned (.tuple #[]) ∧ Only (Mid B N) w w'
theorem mid_join {B N b1 b2 : Nat} {a b c : World} (h : Only (Mid B N) a b) (k : Only (Mid b1 b2) b c) (h1 : B ≤ b1) (h2 : b2 ≤ N) : Only (Mid B N) a c :=
  h.trans (k.mono (fun _ _ hj => Or.inl ⟨Nat.le_trans h1 hj.1, Nat.lt_of_lt_of_le hj.2 h2⟩))
set_option maxRecDepth 100000 in
set_option maxHeartbeats 4000000 in
theorem spoil_any (B N b1 b2 : Nat) (y : Com) (w : World) (hc : Cpy B w y b1 b2) (hb : Bnd y.c) (hN : N ≤ w.heap.size) (h1N : b1 ≤ N) (h2N : b2 ≤ N) (hk : ∀ a, y.KA = some a → a.block < N) :
    Calls Tryd.prog 21 #[comV y] w (spoilPost B N w) := by
  obtain ⟨C, hC⟩ : ∃ C, C = w.heap.size := ⟨_, rfl⟩
  obtain ⟨w0, hw0⟩ : ∃ w0, w0 = w.alloc (comO y) := ⟨_, rfl⟩
  have bx : Box w0 C y := by rw [hw0, hC]; exact Box.new _ _
  have hs0 : w0.heap.size = C + 1 := by rw [hw0, hC]; simp
  have O0 : Only (Mid B N) w w0 := by rw [hw0]; exact (Only.refl _ _).alloc _
  have HO0 := Lib.hid O0
  have HOV : Hid (Own B w0 (.slice y.VA y.c.value.length y.vc) y.c.value) := own_below hc.ov (by rw [hw0]; exact alloc_below _ _) (Nat.le_refl _)
  have HOT : Hid (Ows b1 w0 (.slice y.TA y.c.tags.length y.tc) y.c.tags) := ows_below hc.ot (by rw [hw0]; exact alloc_below _ _) (Nat.le_refl _)
  have HOK : Hid (Ows b2 w0 (.slice y.KA y.c.keys.length y.kc) y.c.keys) := ows_below hc.ok (by rw [hw0]; exact alloc_below _ _) (Nat.le_refl _)
  have HV := Lib.hid hc.hv; have HT := Lib.hid hc.ht; have HK := Lib.hid hk
  have HH := Lib.hid (And.intro hc.h1 hc.h2)
  have HNN : Hid (N ≤ C ∧ b1 ≤ N ∧ b2 ≤ N) := by show _ ∧ _; omega
  have v1 := hb.value; have t1 := hb.tags; have q1 := hb.keys
  obtain ⟨c0, c1, c2, c3, c4, c5, c6, c7, c8, c9, _⟩ := bx
  have HCL : Hid (∀ v (a : Addr), Only (Mid B N) w0 v → a.block = C → v.cell? a = w0.cell? a) := fun v a h e => h.cell (by rw [e]; omega) (fun hm => by have := hm.2; omega)
  unfold comV
  unfold comO at hw0
  have k2 : ∀ v, Only (Mid B N) w0 v → v.cell? ⟨C, 2, none⟩ = some (.slice y.KA y.c.keys.length y.kc) := fun v h => by rw [HCL.out v ⟨C, 2, none⟩ h rfl]; exact c2
  have k3 : ∀ v, Only (Mid B N) w0 v → v.cell? ⟨C, 3, none⟩ = some (.slice y.VA y.c.value.length y.vc) := fun v h => by rw [HCL.out v ⟨C, 3, none⟩ h rfl]; exact c3
  have k4 : ∀ v, Only (Mid B N) w0 v → v.cell? ⟨C, 4, none⟩ = some (.slice y.TA y.c.tags.length y.tc) := fun v h => by rw [HCL.out v ⟨C, 4, none⟩ h rfl]; exact c4
  go_enter Tryd.func21, Tryd.ntmps21
  go_upto_region 1 with fail
  rw [← hw0, ← hC]
  clear hw0 hC hs0 O0 hc hb hN h1N h2N hk c0 c1 c5 c6 c7 c8 c9
  generalize y.c.value = value at *
  generalize y.c.tags = tags at *
  generalize y.c.keys = keys at *
  go_wp2_with fail
  go_loopw [2, 8] (fun _ i wr => ∃ (k : Nat) (m : Bs), k ≤ value.length ∧ i = .int .i64 (k : Int) ∧ m.length = value.length ∧ Own B wr (.slice y.VA value.length y.vc) m ∧ Only (Mid B b1) w0 wr) (fun _ i _ => value.length - (intOf i).toNat)
  case atStart => exact ⟨0, value, Nat.zero_le _, rfl, rfl, HOV.out, Only.refl _ _⟩
  case round =>
    obtain ⟨k, m, hkl, rfl, hml, hown, hon⟩ := hrel
    obtain ⟨wo, rfl⟩ : ∃ wo : World, wo = wr := ⟨_, rfl⟩
    have HO := Lib.hid hown
    have HON := Lib.hid hon
    have p3 := k3 wo (hon.mono (fun j _ hj => ⟨hj.1, Nat.lt_of_lt_of_le hj.2 HNN.out.2.1⟩))
    have P4 := Lib.hid (k4 wo (hon.mono (fun j _ hj => ⟨hj.1, Nat.lt_of_lt_of_le hj.2 HNN.out.2.1⟩)))
    clear hown hon
    by_cases hlt : k < value.length
    · have i1 : (k : Int) < value.length := by omega
      have HML := Lib.hid hml
      obtain ⟨g, hg⟩ : ∃ g, y.VA = some ⟨g, 0, none⟩ := by
        rcases own_form (by rw [hml] ; exact HO.out : Own B wo (.slice y.VA m.length y.vc) m) with ⟨_, h0⟩ | ⟨g, cap, e, _⟩
        · rw [h0] at hml; simp at hml; omega
        · exact ⟨g, by injection e⟩
      have HGB := HV.out _ hg
      have HBG : Hid (B ≤ g) := by
        obtain ⟨A', c', s⟩ := own_shape (by rw [hml] ; exact HO.out : Own B wo (.slice y.VA m.length y.vc) m)
        have e := s.val
        simp only [Value.slice.injEq, true_and] at e
        exact (s.base ⟨g, 0, none⟩ (by rw [← e.1, hg])).1
      have HGB1 := Lib.hid HGB
      rw [hg] at HO p3
      obtain ⟨x1, x2⟩ := own_cell hml HO.out (by omega : k < m.length)
      obtain ⟨b, hb⟩ : ∃ b, b = m[k]'(by omega) := ⟨_, rfl⟩
      rw [← hb] at x1
      have hb256 := b.toNat_lt
      have e256 : ((b.toNat : Int) + 1) % 256 = (((b.toNat + 1) % 256 : Nat) : Int) := by omega
      have E256 := Lib.hid e256
      have HST : Hid _ := Lib.hid (own_store hml HO.out k ((b.toNat + 1) % 256) (by omega))
      clear hb e256 hml HGB
      go_wp2_with fail
      go_roundw
      case rel =>
        refine ⟨k + 1, m.set k (UInt8.ofNat ((b.toNat + 1) % 256)), by omega, by go_num, by rw [List.length_set]; exact HML.out, ?_, HON.out.put (ad := ⟨g, k, none⟩) ⟨HBG.out, HGB1.out⟩ _⟩
        rw [hg, E256.out]; exact HST.out
      case measure => simp [intOf]; omega
    · obtain rfl : k = value.length := by omega
      have hnn : ¬ (value.length : Int) < value.length := by omega
      have p4 := P4.out
      have HO1 : Hid (Only (Mid B N) w0 wo) := HON.out.mono (fun j _ hj => ⟨hj.1, Nat.lt_of_lt_of_le hj.2 HNN.out.2.1⟩)
      have HT1 : Hid (Ows b1 wo (.slice y.TA tags.length y.tc) tags) := ows_onl HOT.out HON.out (fun j hj hm => by have := hm.2; omega)
      have HK1 : Hid (Ows b2 wo (.slice y.KA keys.length y.kc) keys) := ows_onl HOK.out HON.out (fun j hj hm => by have := hm.2; have := HH.out.2; omega)
      clear HO HON HOT HOK HOV p3 P4 hml
      go_wp2_with fail
      go_loopw [3, 22] (fun _ i wr => ∃ (k : Nat) (m : List Bs), k ≤ tags.length ∧ i = .int .i64 (k : Int) ∧ m.length = tags.length ∧ Ows b1 wr (.slice y.TA tags.length y.tc) m ∧ Only (Mid b1 b2) wo wr) (fun _ i _ => tags.length - (intOf i).toNat)
      case atStart => exact ⟨0, tags, Nat.zero_le _, rfl, rfl, HT1.out, Only.refl _ _⟩
      case round =>
        obtain ⟨k, m, hkl, rfl, hml, hown, hon⟩ := hrel
        obtain ⟨wo2, rfl⟩ : ∃ wo2 : World, wo2 = wr := ⟨_, rfl⟩
        have HO := Lib.hid hown
        have HON := Lib.hid hon
        have HJ : Hid (Only (Mid B N) w0 wo2) := mid_join HO1.out hon HH.out.1 HNN.out.2.2
        have pC := k4 wo2 HJ.out
        clear hown hon
        by_cases hlt : k < tags.length
        · have i1 : (k : Int) < tags.length := by omega
          have HML := Lib.hid hml
          obtain ⟨g, hg⟩ : ∃ g, y.TA = some ⟨g, 0, none⟩ := by
            rcases ows_form (by rw [hml] ; exact HO.out : Ows b1 wo2 (.slice y.TA m.length y.tc) m) with ⟨_, h0⟩ | ⟨g, cap, e, _⟩
            · rw [h0] at hml; simp at hml; omega
            · exact ⟨g, by injection e⟩
          have HGB1 := Lib.hid (HT.out _ hg)
          have HBG : Hid (b1 ≤ g) := by
            obtain ⟨A', c', s⟩ := ows_shape (by rw [hml] ; exact HO.out : Ows b1 wo2 (.slice y.TA m.length y.tc) m)
            have e := s.val
            simp only [Value.slice.injEq, true_and] at e
            exact (s.base ⟨g, 0, none⟩ (by rw [← e.1, hg])).1
          rw [hg] at HO pC
          obtain ⟨x1, x2⟩ := ows_cell hml HO.out (by omega : k < m.length)
          have HST : Hid _ := Lib.hid (ows_store hml HO.out k [120])
          obtain ⟨sv, hsv⟩ : ∃ sv, sv = strV (m[k]'(by omega)) := ⟨_, rfl⟩
          rw [← hsv] at x1
          clear hsv hml
          go_wp2_with fail
          go_roundw
          case rel =>
            refine ⟨k + 1, m.set k [120], by omega, by go_num, by rw [List.length_set]; exact HML.out, ?_, HON.out.put (ad := ⟨g, k, none⟩) ⟨HBG.out, HGB1.out⟩ _⟩
            rw [hg]; exact HST.out
          case measure => simp [intOf]; omega
        · obtain rfl : k = tags.length := by omega
          have hnn : ¬ (tags.length : Int) < tags.length := by omega
          have p2 := k2 wo2 HJ.out
          have HK2 : Hid (Ows b2 wo2 (.slice y.KA keys.length y.kc) keys) := ows_onl HK1.out HON.out (fun j hj hm => by have := hm.2; omega)
          clear HO HON HT1 HK1 p4 pC hml
          go_wp2_with fail
          go_loopw [4, 33] (fun _ i wr => ∃ (k : Nat) (m : List Bs), k ≤ keys.length ∧ i = .int .i64 (k : Int) ∧ m.length = keys.length ∧ Ows b2 wr (.slice y.KA keys.length y.kc) m ∧ Only (Mid b2 N) wo2 wr) (fun _ i _ => keys.length - (intOf i).toNat)
          case atStart => exact ⟨0, keys, Nat.zero_le _, rfl, rfl, HK2.out, Only.refl _ _⟩
          case round =>
            obtain ⟨k, m, hkl, rfl, hml, hown, hon⟩ := hrel
            obtain ⟨wo3, rfl⟩ : ∃ wo3 : World, wo3 = wr := ⟨_, rfl⟩
            have HO := Lib.hid hown
            have HON := Lib.hid hon
            have HJ3 : Hid (Only (Mid B N) w0 wo3) := mid_join HJ.out hon (Nat.le_trans HH.out.1 HH.out.2) (Nat.le_refl _)
            have pC := k2 wo3 HJ3.out
            clear hown hon
            by_cases hlt : k < keys.length
            · have i1 : (k : Int) < keys.length := by omega
              have HML := Lib.hid hml
              obtain ⟨g, hg⟩ : ∃ g, y.KA = some ⟨g, 0, none⟩ := by
                rcases ows_form (by rw [hml] ; exact HO.out : Ows b2 wo3 (.slice y.KA m.length y.kc) m) with ⟨_, h0⟩ | ⟨g, cap, e, _⟩
                · rw [h0] at hml; simp at hml; omega
                · exact ⟨g, by injection e⟩
              have HGB1 := Lib.hid (HK.out _ hg)
              have HBG : Hid (b2 ≤ g) := by
                obtain ⟨A', c', s⟩ := ows_shape (by rw [hml] ; exact HO.out : Ows b2 wo3 (.slice y.KA m.length y.kc) m)
                have e := s.val
                simp only [Value.slice.injEq, true_and] at e
                exact (s.base ⟨g, 0, none⟩ (by rw [← e.1, hg])).1
              rw [hg] at HO pC
              obtain ⟨x1, x2⟩ := ows_cell hml HO.out (by omega : k < m.length)
              have HST : Hid _ := Lib.hid (ows_store hml HO.out k [120])
              obtain ⟨sv, hsv⟩ : ∃ sv, sv = strV (m[k]'(by omega)) := ⟨_, rfl⟩
              rw [← hsv] at x1
              clear hsv hml
              go_wp2_with fail
              go_roundw
              case rel =>
                refine ⟨k + 1, m.set k [120], by omega, by go_num, by rw [List.length_set]; exact HML.out, ?_, HON.out.put (ad := ⟨g, k, none⟩) ⟨HBG.out, HGB1.out⟩ _⟩
                rw [hg]; exact HST.out
              case measure => simp [intOf]; omega
            · obtain rfl : k = keys.length := by omega
              have hnn : ¬ (keys.length : Int) < keys.length := by omega
              go_wp2_with fail
              exact bodyPost_ret (v := .tuple #[]) (by simp [results, Tryd.results21, go_sem]) rfl ⟨rfl, HO0.out.trans (HJ3.out.mono (fun j _ hj => Or.inl hj))⟩
end Go.Proofs.YtefadkdngcbpiaaDoor.Qzb
