/- Proves what one call of TableHolds leaves: the switch over the kind of the call. Conditions: as each theorem names them. -/
import Derived.Test.YthabnffmlgppdaaPza
namespace Go.Proofs.Ythabnffmlgppdaa.Pzb
open Go.RowKit Go.Maps Ap Mi Nw Rg Hm Tm Tn Ta Tb Pm Pa Pb Pc Pd Pe Pf Pg Ph Pn Pj Pk Pq Px Pu Pv Pza
open Tf (okK okK_spec Puts Gets)
open Tg (Sets)
open Th (Dels)

set_option maxRecDepth 1000000 in
set_option maxHeartbeats 16000000 in
theorem sw0 {N : Nat} {W : World} {f : Nat → Value} {s1 s2 : Int} {A : Option Addr} {len cap g1 g2 b9 k b11 : Nat} {nv : Int} {th : Bool} {wc : World} {K : Go.Act → World → Prop} {Q : Exit → Go.Act → World → Prop} {n : Nat} {F1 F2 : Nat → Prop} {c d : List (Cell Key)} {D : DataW Unit} {mv : Key → Option Int} {xa xn : Int} {xk : Key} (q0 : xa = 0)
    (hk1 : k < 200) (hnk : n ≤ k) (hcn : cnt c ≤ k) (BO0 : Hid (Base N wc F1 F2 g1 g2 b9 n D s1 s2 c d)) (TW : Hid (Two s1 s2 c d)) (TR : Hid (Trk D mv c)) (BL0 : Hid (Below N W wc)) (hzc : N ≤ wc.heap.size)
    (P11 : Hid (Blk wc b11 #[.int .i64 xa, .string ⟨xk.toArray⟩, .int .i64 xn] 34)) (HFA : Hid (∀ j, F1 j → j ≠ b11)) (HFB : Hid (∀ j, F2 j → j ≠ b11)) (hxk : xk.length ≤ 300) (HXN : Hid (In xn)) (hcl : c.length ≤ 10000)
    (HT1 : Hid (th = true → ∃ y : Nat, some (xk, y) ∈ c ∧ nv = (y : Int))) (HT0 : Hid (th = false → ∀ y, some (xk, y) ∉ c))
    (HK : Hid (∀ a' w', Fr a' s1 A len cap g1 g2 b9 k → Mid N W g1 g2 b9 s1 s2 (k + 1) w' → K a' w')) :
    Code.wp Try.prog sw (Exit.then K Q) ⟨#[.int .u64 s1, f 1, .slice A len cap, f 3, f 4, f 5, f 6, .pointer (some ⟨g1, 0, none⟩), .pointer (some ⟨g2, 0, none⟩), .map (some b9), f 10, .pointer (some ⟨b11, 0, none⟩), .int .i64 nv, .bool th, f 14, f 15, f 16, f 17, f 18, f 19, f 20, f 21, f 22, f 23, f 24, f 25, f 26, f 27, f 28, f 29, f 30, f 31, f 32, f 33, f 34, f 35, f 36, f 37, f 38, f 39, f 40, f 41, f 42, f 43, f 44, f 45, f 46, f 47, f 48, f 49, .slice A len cap, .int .i64 (len : Int), .int .i64 (k : Int), f 53, f 54, f 55, f 56, f 57, f 58, f 59, f 60, f 61, f 62, f 63, f 64, f 65, f 66, f 67, f 68, f 69, f 70, f 71, f 72, f 73, f 74, f 75, f 76, f 77, f 78, f 79, f 80, f 81, f 82, f 83, f 84, f 85, f 86, f 87, f 88, f 89, f 90, f 91, f 92, f 93, f 94, f 95, f 96, f 97, f 98, f 99, f 100, f 101, f 102, f 103, f 104, f 105, f 106, f 107, f 108, f 109, f 110, f 111, f 112, f 113, f 114, f 115, f 116, f 117, f 118, f 119, f 120, f 121, f 122, f 123, f 124, f 125, f 126, f 127, f 128, f 129, f 130, f 131, f 132, f 133, f 134, f 135, f 136, f 137, f 138, f 139, f 140, f 141, f 142, f 143, f 144, f 145, f 146, f 147, f 148, f 149, f 150, f 151, f 152, f 153, f 154, f 155, f 156, f 157, f 158, f 159, f 160, f 161, f 162, f 163, f 164, f 165, f 166, f 167, f 168, f 169, f 170, f 171, f 172, f 173, f 174, f 175, f 176, f 177, f 178, f 179, f 180, f 181, f 182, f 183, f 184, f 185, f 186, f 187, f 188, f 189, f 190, f 191, f 192, f 193, f 194, f 195, f 196, f 197, f 198, f 199, f 200, f 201, f 202, f 203, f 204, f 205, f 206, f 207, f 208, f 209, f 210, f 211, f 212, f 213, f 214, f 215, f 216, f 217, f 218, f 219, f 220, f 221, f 222, f 223, f 224, f 225, f 226, f 227, f 228, f 229, f 230, f 231, f 232, f 233, f 234, f 235, f 236, f 237, f 238, f 239, f 240, f 241, f 242, f 243, f 244, f 245, f 246, f 247, f 248, f 249, f 250, f 251, f 252, f 253, f 254, f 255, f 256, f 257, f 258, f 259, f 260, f 261, f 262, f 263, f 264, f 265, f 266, f 267, f 268, f 269, f 270, f 271, f 272, f 273, f 274, f 275, f 276, f 277, f 278, f 279, f 280, f 281, f 282, f 283, f 284, f 285, f 286, f 287, f 288, f 289, f 290, f 291, f 292, f 293, f 294, f 295, f 296, f 297, f 298, f 299, f 300, f 301, f 302, f 303], []⟩ wc := by
  have hu := And.intro hk1 (And.intro HFA.out (And.intro HFB.out (And.intro hxk (And.intro hcl (And.intro HT1.out HT0.out)))))
  clear hu
  have hxn2 := HXN.out.2
  have hNb := BO0.out.nb
  have hb9l := BO0.out.mp.lt
  have l11 : b11 < wc.heap.size := P11.out.lt
  obtain ⟨y0, y1, y2, _⟩ := P11.out.three
  conv => arg 2; whnf
  subst q0
  obtain ⟨c', d', e, hp1, hp2, htw', hcc, hw⟩ := puts_two TW.out xk xn
  have HP1 := Lib.hid hp1; have HP2 := Lib.hid hp2; have TW' := Lib.hid htw'
  clear hp1 hp2 htw'
  go_wp2_with fail
  have D11 := Lib.hid (show Blk wc.drew b11 _ _ from P11.out)
  have BOd := Lib.hid (BO0.out.below ((Below.refl wc.heap.size wc).drew) (Nat.le_refl _))
  have BLd := Lib.hid BL0.out.drew
  have hzN : N ≤ wc.drew.heap.size := by show N ≤ wc.heap.size; omega
  refine wp_region_noPanic ?_
  refine wp_region_held_drew (S := fun v => v.cell? ⟨b11, 0, none⟩ = some (.int .i64 0) ∧ v.cell? ⟨b11, 1, none⟩ = some (.string ⟨xk.toArray⟩) ∧ v.cell? ⟨b11, 2, none⟩ = some (.int .i64 xn)) (by kernel_rfl) (⟨y0, y1, y2⟩) (fun hHeld => ?_)
  generalize wc.drew = u at D11 BOd BLd hzN hHeld ⊢
  refine wpAnyH_take (i := 0) (oi := ⟨some 72, _, _, _, _, _⟩) (v := ?_) rfl (by kernel_rfl) (by kernel_rfl) (by kernel_rfl) (fun _ _ _ h => h) (Or.inl ⟨by rfl, ?_⟩) (by assumption) ?_
  rotate_left
  · intro w hSw; go_simp; first | done | with_reducible rfl
  try simp only [Act.put, List.setIfInBounds_toArray, List.set_cons_zero, List.set_cons_succ]
  refine wpAnyH_take (i := 1) (oi := ⟨some 73, _, _, _, _, _⟩) (v := ?_) rfl (by kernel_rfl) (by kernel_rfl) (by kernel_rfl) (fun _ _ _ h => h) (Or.inl ⟨by rfl, ?_⟩) (by assumption) ?_
  rotate_left
  · intro w hSw; go_simp; first | done | with_reducible rfl
  try simp only [Act.put, List.setIfInBounds_toArray, List.set_cons_zero, List.set_cons_succ]
  refine wpAnyH_take (i := 2) (oi := ⟨some 74, _, _, _, _, _⟩) (v := ?_) rfl (by kernel_rfl) (by kernel_rfl) (by kernel_rfl) (fun _ _ _ h => h) (Or.inl ⟨by rfl, ?_⟩) (by assumption) ?_
  rotate_left
  · intro w hSw; go_simp; first | done | with_reducible rfl
  try simp only [Act.put, List.setIfInBounds_toArray, List.set_cons_zero, List.set_cons_succ]
  refine wpAnyH_take (i := 3) (oi := ⟨some 75, _, _, _, _, _⟩) (v := ?_) rfl (by kernel_rfl) (by kernel_rfl) (by kernel_rfl) (fun _ _ _ h => h) (Or.inl ⟨by rfl, ?_⟩) (by assumption) ?_
  rotate_left
  · intro w hSw; go_simp; first | done | with_reducible rfl
  try simp only [Act.put, List.setIfInBounds_toArray, List.set_cons_zero, List.set_cons_succ]
  refine wpAnyH_take (i := 4) (oi := ⟨some 76, _, _, _, _, _⟩) (v := ?_) rfl (by kernel_rfl) (by kernel_rfl) (by kernel_rfl) (fun _ _ _ h => h) (Or.inl ⟨by rfl, ?_⟩) (by assumption) ?_
  rotate_left
  · intro w hSw; go_simp; first | done | with_reducible rfl
  try simp only [Act.put, List.setIfInBounds_toArray, List.set_cons_zero, List.set_cons_succ]
  refine wpAnyH_take (i := 6) (oi := ⟨some 78, _, _, _, _, _⟩) (v := ?_) rfl (by kernel_rfl) (by kernel_rfl) (by kernel_rfl) (fun _ _ _ h => h) (Or.inl ⟨by rfl, ?_⟩) (by assumption) ?_
  rotate_left
  · intro w hSw; go_simp; first | done | with_reducible rfl
  try simp only [Act.put, List.setIfInBounds_toArray, List.set_cons_zero, List.set_cons_succ]
  refine wpAnyH_take (i := 7) (oi := ⟨some 79, _, _, _, _, _⟩) (v := ?_) rfl (by kernel_rfl) (by kernel_rfl) (by kernel_rfl) (fun _ _ _ h => h) (Or.inl ⟨by rfl, ?_⟩) (by assumption) ?_
  rotate_left
  · intro w hSw; go_simp; first | done | with_reducible rfl
  try simp only [Act.put, List.setIfInBounds_toArray, List.set_cons_zero, List.set_cons_succ]
  refine wpAnyH_take (i := 8) (oi := ⟨some 80, _, _, _, _, _⟩) (v := ?_) rfl (by kernel_rfl) (by kernel_rfl) (by kernel_rfl) (fun _ _ _ h => h) (Or.inl ⟨by rfl, ?_⟩) (by assumption) ?_
  rotate_left
  · intro w hSw; go_simp; first | done | with_reducible rfl
  try simp only [Act.put, List.setIfInBounds_toArray, List.set_cons_zero, List.set_cons_succ]
  refine wpAnyH_take (i := 9) (oi := ⟨some 81, _, _, _, _, _⟩) (v := ?_) rfl (by kernel_rfl) (by kernel_rfl) (by kernel_rfl) (fun _ _ _ h => h) (Or.inl ⟨by rfl, ?_⟩) (by assumption) ?_
  rotate_left
  · intro w hSw; go_simp; first | done | with_reducible rfl
  try simp only [Act.put, List.setIfInBounds_toArray, List.set_cons_zero, List.set_cons_succ]
  refine wpAnyH_take (i := 10) (oi := ⟨some 82, _, _, _, _, _⟩) (v := ?_) rfl (by kernel_rfl) (by kernel_rfl) (by kernel_rfl) (fun _ _ _ h => h) (Or.inl ⟨by rfl, ?_⟩) (by assumption) ?_
  rotate_left
  · intro w hSw; go_simp; first | done | with_reducible rfl
  try simp only [Act.put, List.setIfInBounds_toArray, List.set_cons_zero, List.set_cons_succ]
  refine wpAnyH_ready (rs := [5]) (by kernel_rfl) (by simp) ?_
  refine AllReadyH.cons (o := ⟨some 77, _, _, _, _, _⟩) rfl (fun K hK => ?_) AllReadyH.nil
  go_simp
  refine (put_any (BOd.out.t1) xk (by omega) (by omega) hxn2 HP1.out).mono ?_
  unfold putPost
  rintro r u2 ⟨rfl, ht, ho⟩
  have E1 := Lib.hid (BOd.out.one hzN ht ho)
  have Q11 := Lib.hid (D11.out.only ho (fun hf => HFA.out _ hf rfl))
  have EL1 : Hid (Below N W u2) := BLd.out.trans (ho.below (fun j hf => (BOd.out.f1 j hf).1) hzN)
  have hz2u : u.heap.size ≤ u2.heap.size := ho.size
  have hzN2 : N ≤ u2.heap.size := by omega
  clear ht ho
  go_simp
  refine hK.out _ _ (⟨Q11.out.cell 0, Q11.out.cell 1, Q11.out.cell 2⟩) (fun hHeld => ?_)
  clear hK K
  try simp only [Act.put, List.setIfInBounds_toArray, List.set_cons_zero, List.set_cons_succ]
  refine wpAnyH_ready (rs := [11]) (by kernel_rfl) (by simp) ?_
  refine AllReadyH.cons (o := ⟨some 83, _, _, _, _, _⟩) rfl (fun K hK => ?_) AllReadyH.nil
  go_simp
  refine (put_any (E1.out.t2) xk (by omega) (by rw [← TW.out.len]; omega) hxn2 HP2.out).mono ?_
  unfold putPost
  rintro r u3 ⟨rfl, ht, ho⟩
  have E2 := Lib.hid (E1.out.two hzN2 ht ho)
  have Q12 := Lib.hid (Q11.out.only ho (fun hf => HFB.out _ hf rfl))
  have EL2 : Hid (Below N W u3) := EL1.out.trans (ho.below (fun j hf => (E1.out.f2 j hf).1) hzN2)
  have hz3u : u2.heap.size ≤ u3.heap.size := ho.size
  have hzN3 : N ≤ u3.heap.size := by omega
  clear ht ho
  go_simp
  refine hK.out _ _ (⟨Q12.out.cell 0, Q12.out.cell 1, Q12.out.cell 2⟩) (fun hHeld => ?_)
  clear hK K
  try simp only [Act.put, List.setIfInBounds_toArray, List.set_cons_zero, List.set_cons_succ]
  refine wpAnyH_take (i := 12) (oi := ⟨some 14, _, _, _, _, _⟩) (v := ?_) rfl (by kernel_rfl) (by kernel_rfl) (by kernel_rfl) (fun _ _ _ h => h) (Or.inl ⟨by rfl, ?_⟩) (by assumption) ?_
  rotate_left
  · intro w hSw; go_simp; first | done | with_reducible rfl
  try simp only [Act.put, List.setIfInBounds_toArray, List.set_cons_zero, List.set_cons_succ]
  refine wpAnyH_take (i := 13) (oi := ⟨some 15, _, _, _, _, _⟩) (v := ?_) rfl (by kernel_rfl) (by kernel_rfl) (by kernel_rfl) (fun _ _ _ h => h) (Or.inl ⟨by rfl, ?_⟩) (by assumption) ?_
  rotate_left
  · intro w hSw; go_simp; first | done | with_reducible rfl
  try simp only [Act.put, List.setIfInBounds_toArray, List.set_cons_zero, List.set_cons_succ]
  refine wpAnyH_done (by kernel_rfl) ?_ _
  refine NoPanic.normal ?_
  clear hHeld y0 y1 y2
  rcases hw with ⟨rfl, hok, hab, hm⟩ | ⟨rfl, hin, rfl, rfl⟩ | ⟨rfl, rfl, rfl⟩
  · cases th with
    | true => obtain ⟨y, hy, _⟩ := HT1.out rfl; exact absurd hy (hab y)
    | false =>
      clear hab
      obtain ⟨y0, y1, y2, _⟩ := Q12.out.three
      have HT2 := Lib.hid (trk_put TR.out hok hm)
      clear hm
      go_wp2_with (at_mapUpdate; refine at_store _ rfl _ _ _ rfl b9 n D rfl E2.out.mp (by omega) xk (by unfold maxLen; omega) rfl xn HXN.out rfl ?_; intro w9 hw9 ho9)
      have E9 := Lib.hid (E2.out.store hw9 ho9)
      have L9 : Hid (Below N W w9) := EL2.out.trans (ho9.below (fun j e => by omega) hzN3)
      have hz9 := ho9.size
      clear hw9 ho9 y0 y1 y2
      try go_wp2_with fail
      exact HK.out _ _ ⟨rfl, rfl, rfl, rfl, rfl, rfl, rfl, rfl, rfl, rfl⟩ ⟨n + 1, _, _, c', d', _, _, by omega, by omega, E9.out, TW'.out, HT2.out, L9.out, by omega⟩
  · cases th with
    | false => obtain ⟨y, hy⟩ := hin; exact absurd hy (HT0.out rfl y)
    | true =>
      clear hin
      go_wp2_with fail
      exact HK.out _ _ ⟨rfl, rfl, rfl, rfl, rfl, rfl, rfl, rfl, rfl, rfl⟩ ⟨n, _, _, _, _, D, mv, by omega, by omega, E2.out, TW'.out, TR.out, EL2.out, hzN3⟩
  · go_wp2_with fail
    exact HK.out _ _ ⟨rfl, rfl, rfl, rfl, rfl, rfl, rfl, rfl, rfl, rfl⟩ ⟨n, _, _, _, _, D, mv, by omega, by omega, E2.out, TW'.out, TR.out, EL2.out, hzN3⟩
set_option maxRecDepth 1000000 in
set_option maxHeartbeats 16000000 in
theorem sw2 {N : Nat} {W : World} {f : Nat → Value} {s1 s2 : Int} {A : Option Addr} {len cap g1 g2 b9 k b11 : Nat} {nv : Int} {th : Bool} {wc : World} {K : Go.Act → World → Prop} {Q : Exit → Go.Act → World → Prop} {n : Nat} {F1 F2 : Nat → Prop} {c d : List (Cell Key)} {D : DataW Unit} {mv : Key → Option Int} {xa xn : Int} {xk : Key} (q2 : xa = 2)
    (hk1 : k < 200) (hnk : n ≤ k) (hcn : cnt c ≤ k) (BO0 : Hid (Base N wc F1 F2 g1 g2 b9 n D s1 s2 c d)) (TW : Hid (Two s1 s2 c d)) (TR : Hid (Trk D mv c)) (BL0 : Hid (Below N W wc)) (hzc : N ≤ wc.heap.size)
    (P11 : Hid (Blk wc b11 #[.int .i64 xa, .string ⟨xk.toArray⟩, .int .i64 xn] 34)) (HFA : Hid (∀ j, F1 j → j ≠ b11)) (HFB : Hid (∀ j, F2 j → j ≠ b11)) (hxk : xk.length ≤ 300) (HXN : Hid (In xn)) (hcl : c.length ≤ 10000)
    (HT1 : Hid (th = true → ∃ y : Nat, some (xk, y) ∈ c ∧ nv = (y : Int))) (HT0 : Hid (th = false → ∀ y, some (xk, y) ∉ c))
    (HK : Hid (∀ a' w', Fr a' s1 A len cap g1 g2 b9 k → Mid N W g1 g2 b9 s1 s2 (k + 1) w' → K a' w')) :
    Code.wp Try.prog sw (Exit.then K Q) ⟨#[.int .u64 s1, f 1, .slice A len cap, f 3, f 4, f 5, f 6, .pointer (some ⟨g1, 0, none⟩), .pointer (some ⟨g2, 0, none⟩), .map (some b9), f 10, .pointer (some ⟨b11, 0, none⟩), .int .i64 nv, .bool th, f 14, f 15, f 16, f 17, f 18, f 19, f 20, f 21, f 22, f 23, f 24, f 25, f 26, f 27, f 28, f 29, f 30, f 31, f 32, f 33, f 34, f 35, f 36, f 37, f 38, f 39, f 40, f 41, f 42, f 43, f 44, f 45, f 46, f 47, f 48, f 49, .slice A len cap, .int .i64 (len : Int), .int .i64 (k : Int), f 53, f 54, f 55, f 56, f 57, f 58, f 59, f 60, f 61, f 62, f 63, f 64, f 65, f 66, f 67, f 68, f 69, f 70, f 71, f 72, f 73, f 74, f 75, f 76, f 77, f 78, f 79, f 80, f 81, f 82, f 83, f 84, f 85, f 86, f 87, f 88, f 89, f 90, f 91, f 92, f 93, f 94, f 95, f 96, f 97, f 98, f 99, f 100, f 101, f 102, f 103, f 104, f 105, f 106, f 107, f 108, f 109, f 110, f 111, f 112, f 113, f 114, f 115, f 116, f 117, f 118, f 119, f 120, f 121, f 122, f 123, f 124, f 125, f 126, f 127, f 128, f 129, f 130, f 131, f 132, f 133, f 134, f 135, f 136, f 137, f 138, f 139, f 140, f 141, f 142, f 143, f 144, f 145, f 146, f 147, f 148, f 149, f 150, f 151, f 152, f 153, f 154, f 155, f 156, f 157, f 158, f 159, f 160, f 161, f 162, f 163, f 164, f 165, f 166, f 167, f 168, f 169, f 170, f 171, f 172, f 173, f 174, f 175, f 176, f 177, f 178, f 179, f 180, f 181, f 182, f 183, f 184, f 185, f 186, f 187, f 188, f 189, f 190, f 191, f 192, f 193, f 194, f 195, f 196, f 197, f 198, f 199, f 200, f 201, f 202, f 203, f 204, f 205, f 206, f 207, f 208, f 209, f 210, f 211, f 212, f 213, f 214, f 215, f 216, f 217, f 218, f 219, f 220, f 221, f 222, f 223, f 224, f 225, f 226, f 227, f 228, f 229, f 230, f 231, f 232, f 233, f 234, f 235, f 236, f 237, f 238, f 239, f 240, f 241, f 242, f 243, f 244, f 245, f 246, f 247, f 248, f 249, f 250, f 251, f 252, f 253, f 254, f 255, f 256, f 257, f 258, f 259, f 260, f 261, f 262, f 263, f 264, f 265, f 266, f 267, f 268, f 269, f 270, f 271, f 272, f 273, f 274, f 275, f 276, f 277, f 278, f 279, f 280, f 281, f 282, f 283, f 284, f 285, f 286, f 287, f 288, f 289, f 290, f 291, f 292, f 293, f 294, f 295, f 296, f 297, f 298, f 299, f 300, f 301, f 302, f 303], []⟩ wc := by
  have hu := And.intro hk1 (And.intro HFA.out (And.intro HFB.out (And.intro hxk (And.intro hcl (And.intro HT1.out HT0.out)))))
  clear hu
  have hxn2 := HXN.out.2
  have hNb := BO0.out.nb
  have hb9l := BO0.out.mp.lt
  have l11 : b11 < wc.heap.size := P11.out.lt
  obtain ⟨y0, y1, y2, _⟩ := P11.out.three
  conv => arg 2; whnf
  subst q2
  obtain ⟨c', d', m, e, hp1, hp2, htw', hcc, hw⟩ := sets_two TW.out xk xn
  have HP1 := Lib.hid hp1; have HP2 := Lib.hid hp2; have TW' := Lib.hid htw'
  clear hp1 hp2 htw'
  go_wp2_with fail
  refine (set_any BO0.out.t1 xk (by omega) hxn2 HP1.out).mono ?_
  rintro r u2 ⟨rfl, ht, ho⟩
  have E1 := Lib.hid (BO0.out.one hzc (ht.mono (fun _ _ hf => Or.inl hf)) ho)
  have Q11 := Lib.hid (P11.out.only ho (fun hf => HFA.out _ hf rfl))
  have EL1 : Hid (Below N W u2) := BL0.out.trans (ho.below (fun j hf => (BO0.out.f1 j hf).1) hzc)
  have hz2u : wc.heap.size ≤ u2.heap.size := ho.size
  have hzN2 : N ≤ u2.heap.size := by omega
  clear ht ho y0 y1 y2
  obtain ⟨y0, y1, y2, _⟩ := Q11.out.three
  go_wp2_with fail
  refine (set_any E1.out.t2 xk (by omega) hxn2 HP2.out).mono ?_
  rintro r u3 ⟨rfl, ht, ho⟩
  have E2 := Lib.hid (E1.out.two hzN2 (ht.mono (fun _ _ hf => Or.inl hf)) ho)
  have Q12 := Lib.hid (Q11.out.only ho (fun hf => HFB.out _ hf rfl))
  have EL2 : Hid (Below N W u3) := EL1.out.trans (ho.below (fun j hf => (E1.out.f2 j hf).1) hzN2)
  have hz3u : u2.heap.size ≤ u3.heap.size := ho.size
  have hzN3 : N ≤ u3.heap.size := by omega
  clear ht ho y0 y1 y2
  obtain ⟨y0, y1, y2, _⟩ := Q12.out.three
  rcases hw with ⟨rfl, hok, ⟨y, hy, rfl⟩, hm⟩ | ⟨rfl | rfl, rfl, rfl, rfl⟩
  · cases th with
    | false => exact absurd hy (HT0.out rfl y)
    | true =>
      have HE : Hid (nv = (y : Int)) := by obtain ⟨y2, hy2, e⟩ := HT1.out rfl; have := To.num_one TW.out.g1 hy hy2; show _ = _; rw [e, this]
      have hne : ((y : Int) != nv) = false := by rw [HE.out]; simp
      have hne2 : (nv != (y : Int)) = false := by rw [HE.out]; simp
      clear hy
      have HT2 := Lib.hid (trk_put TR.out hok hm)
      clear hm
      go_wp2_with (at_mapUpdate; refine at_store _ rfl _ _ _ rfl b9 n D rfl E2.out.mp (by omega) xk (by unfold maxLen; omega) rfl xn HXN.out rfl ?_; intro w9 hw9 ho9)
      have E9 := Lib.hid (E2.out.store hw9 ho9)
      have L9 : Hid (Below N W w9) := EL2.out.trans (ho9.below (fun j e => by omega) hzN3)
      have hz9 := ho9.size
      clear hw9 ho9 y0 y1 y2
      try go_wp2_with fail
      exact HK.out _ _ ⟨rfl, rfl, rfl, rfl, rfl, rfl, rfl, rfl, rfl, rfl⟩ ⟨n + 1, _, _, c', d', _, _, by omega, by omega, E9.out, TW'.out, HT2.out, L9.out, by omega⟩
  · go_wp2_with fail
    exact HK.out _ _ ⟨rfl, rfl, rfl, rfl, rfl, rfl, rfl, rfl, rfl, rfl⟩ ⟨n, _, _, _, _, D, mv, by omega, by omega, E2.out, TW'.out, TR.out, EL2.out, hzN3⟩
  · go_wp2_with fail
    exact HK.out _ _ ⟨rfl, rfl, rfl, rfl, rfl, rfl, rfl, rfl, rfl, rfl⟩ ⟨n, _, _, _, _, D, mv, by omega, by omega, E2.out, TW'.out, TR.out, EL2.out, hzN3⟩
set_option maxRecDepth 1000000 in
set_option maxHeartbeats 16000000 in
theorem sw3 {N : Nat} {W : World} {f : Nat → Value} {s1 s2 : Int} {A : Option Addr} {len cap g1 g2 b9 k b11 : Nat} {nv : Int} {th : Bool} {wc : World} {K : Go.Act → World → Prop} {Q : Exit → Go.Act → World → Prop} {n : Nat} {F1 F2 : Nat → Prop} {c d : List (Cell Key)} {D : DataW Unit} {mv : Key → Option Int} {xa xn : Int} {xk : Key} (q3 : xa = 3)
    (hk1 : k < 200) (hnk : n ≤ k) (hcn : cnt c ≤ k) (BO0 : Hid (Base N wc F1 F2 g1 g2 b9 n D s1 s2 c d)) (TW : Hid (Two s1 s2 c d)) (TR : Hid (Trk D mv c)) (BL0 : Hid (Below N W wc)) (hzc : N ≤ wc.heap.size)
    (P11 : Hid (Blk wc b11 #[.int .i64 xa, .string ⟨xk.toArray⟩, .int .i64 xn] 34)) (HFA : Hid (∀ j, F1 j → j ≠ b11)) (HFB : Hid (∀ j, F2 j → j ≠ b11)) (hxk : xk.length ≤ 300) (HXN : Hid (In xn)) (hcl : c.length ≤ 10000)
    (HT1 : Hid (th = true → ∃ y : Nat, some (xk, y) ∈ c ∧ nv = (y : Int))) (HT0 : Hid (th = false → ∀ y, some (xk, y) ∉ c))
    (HK : Hid (∀ a' w', Fr a' s1 A len cap g1 g2 b9 k → Mid N W g1 g2 b9 s1 s2 (k + 1) w' → K a' w')) :
    Code.wp Try.prog sw (Exit.then K Q) ⟨#[.int .u64 s1, f 1, .slice A len cap, f 3, f 4, f 5, f 6, .pointer (some ⟨g1, 0, none⟩), .pointer (some ⟨g2, 0, none⟩), .map (some b9), f 10, .pointer (some ⟨b11, 0, none⟩), .int .i64 nv, .bool th, f 14, f 15, f 16, f 17, f 18, f 19, f 20, f 21, f 22, f 23, f 24, f 25, f 26, f 27, f 28, f 29, f 30, f 31, f 32, f 33, f 34, f 35, f 36, f 37, f 38, f 39, f 40, f 41, f 42, f 43, f 44, f 45, f 46, f 47, f 48, f 49, .slice A len cap, .int .i64 (len : Int), .int .i64 (k : Int), f 53, f 54, f 55, f 56, f 57, f 58, f 59, f 60, f 61, f 62, f 63, f 64, f 65, f 66, f 67, f 68, f 69, f 70, f 71, f 72, f 73, f 74, f 75, f 76, f 77, f 78, f 79, f 80, f 81, f 82, f 83, f 84, f 85, f 86, f 87, f 88, f 89, f 90, f 91, f 92, f 93, f 94, f 95, f 96, f 97, f 98, f 99, f 100, f 101, f 102, f 103, f 104, f 105, f 106, f 107, f 108, f 109, f 110, f 111, f 112, f 113, f 114, f 115, f 116, f 117, f 118, f 119, f 120, f 121, f 122, f 123, f 124, f 125, f 126, f 127, f 128, f 129, f 130, f 131, f 132, f 133, f 134, f 135, f 136, f 137, f 138, f 139, f 140, f 141, f 142, f 143, f 144, f 145, f 146, f 147, f 148, f 149, f 150, f 151, f 152, f 153, f 154, f 155, f 156, f 157, f 158, f 159, f 160, f 161, f 162, f 163, f 164, f 165, f 166, f 167, f 168, f 169, f 170, f 171, f 172, f 173, f 174, f 175, f 176, f 177, f 178, f 179, f 180, f 181, f 182, f 183, f 184, f 185, f 186, f 187, f 188, f 189, f 190, f 191, f 192, f 193, f 194, f 195, f 196, f 197, f 198, f 199, f 200, f 201, f 202, f 203, f 204, f 205, f 206, f 207, f 208, f 209, f 210, f 211, f 212, f 213, f 214, f 215, f 216, f 217, f 218, f 219, f 220, f 221, f 222, f 223, f 224, f 225, f 226, f 227, f 228, f 229, f 230, f 231, f 232, f 233, f 234, f 235, f 236, f 237, f 238, f 239, f 240, f 241, f 242, f 243, f 244, f 245, f 246, f 247, f 248, f 249, f 250, f 251, f 252, f 253, f 254, f 255, f 256, f 257, f 258, f 259, f 260, f 261, f 262, f 263, f 264, f 265, f 266, f 267, f 268, f 269, f 270, f 271, f 272, f 273, f 274, f 275, f 276, f 277, f 278, f 279, f 280, f 281, f 282, f 283, f 284, f 285, f 286, f 287, f 288, f 289, f 290, f 291, f 292, f 293, f 294, f 295, f 296, f 297, f 298, f 299, f 300, f 301, f 302, f 303], []⟩ wc := by
  have hu := And.intro hk1 (And.intro HFA.out (And.intro HFB.out (And.intro hxk (And.intro hcl (And.intro HT1.out HT0.out)))))
  clear hu
  have hxn2 := HXN.out.2
  have hNb := BO0.out.nb
  have hb9l := BO0.out.mp.lt
  have l11 : b11 < wc.heap.size := P11.out.lt
  obtain ⟨y0, y1, y2, _⟩ := P11.out.three
  conv => arg 2; whnf
  subst q3
  obtain ⟨c', d', m, e, hp1, hp2, htw', hcc, hw⟩ := dels_two TW.out BO0.out.t1.pl.kys xk
  have HP1 := Lib.hid hp1; have HP2 := Lib.hid hp2; have TW' := Lib.hid htw'
  clear hp1 hp2 htw'
  go_wp2_with fail
  refine (del_any BO0.out.t1 xk (by omega) (by omega) HP1.out).mono ?_
  rintro r u2 ⟨rfl, ht, ho⟩
  have E1 := Lib.hid (BO0.out.one hzc (ht) ho)
  have Q11 := Lib.hid (P11.out.only ho (fun hf => HFA.out _ hf rfl))
  have EL1 : Hid (Below N W u2) := BL0.out.trans (ho.below (fun j hf => (BO0.out.f1 j hf).1) hzc)
  have hz2u : wc.heap.size ≤ u2.heap.size := ho.size
  have hzN2 : N ≤ u2.heap.size := by omega
  clear ht ho y0 y1 y2
  obtain ⟨y0, y1, y2, _⟩ := Q11.out.three
  go_wp2_with fail
  refine (del_any E1.out.t2 xk (by omega) (by rw [← TW.out.len]; omega) HP2.out).mono ?_
  rintro r u3 ⟨rfl, ht, ho⟩
  have E2 := Lib.hid (E1.out.two hzN2 (ht) ho)
  have Q12 := Lib.hid (Q11.out.only ho (fun hf => HFB.out _ hf rfl))
  have EL2 : Hid (Below N W u3) := EL1.out.trans (ho.below (fun j hf => (E1.out.f2 j hf).1) hzN2)
  have hz3u : u2.heap.size ≤ u3.heap.size := ho.size
  have hzN3 : N ≤ u3.heap.size := by omega
  clear ht ho y0 y1 y2
  obtain ⟨y0, y1, y2, _⟩ := Q12.out.three
  rcases hw with ⟨rfl, hok, ⟨y, hy, rfl⟩, hm⟩ | ⟨rfl | rfl, hab, rfl, rfl, rfl⟩
  · cases th with
    | false => exact absurd hy (HT0.out rfl y)
    | true =>
      have HE : Hid (nv = (y : Int)) := by obtain ⟨y2, hy2, e⟩ := HT1.out rfl; have := To.num_one TW.out.g1 hy hy2; show _ = _; rw [e, this]
      have hne : ((y : Int) != nv) = false := by rw [HE.out]; simp
      have hne2 : (nv != (y : Int)) = false := by rw [HE.out]; simp
      clear hy
      have HT2 := Lib.hid (trk_put TR.out hok hm)
      clear hm
      go_wp2_with (at_mapUpdate; refine at_store _ rfl _ _ _ rfl b9 n D rfl E2.out.mp (by omega) xk (by unfold maxLen; omega) rfl (-1) (by unfold In; omega) rfl ?_; intro w9 hw9 ho9)
      have E9 := Lib.hid (E2.out.store hw9 ho9)
      have L9 : Hid (Below N W w9) := EL2.out.trans (ho9.below (fun j e => by omega) hzN3)
      have hz9 := ho9.size
      clear hw9 ho9 y0 y1 y2
      try go_wp2_with fail
      exact HK.out _ _ ⟨rfl, rfl, rfl, rfl, rfl, rfl, rfl, rfl, rfl, rfl⟩ ⟨n + 1, _, _, c', d', _, _, by omega, by omega, E9.out, TW'.out, HT2.out, L9.out, by omega⟩
  · cases th with
    | true => obtain ⟨y, hy, _⟩ := HT1.out rfl; exact absurd hy (hab y)
    | false =>
      go_wp2_with fail
      exact HK.out _ _ ⟨rfl, rfl, rfl, rfl, rfl, rfl, rfl, rfl, rfl, rfl⟩ ⟨n, _, _, _, _, D, mv, by omega, by omega, E2.out, TW'.out, TR.out, EL2.out, hzN3⟩
  · cases th with
    | true => obtain ⟨y, hy, _⟩ := HT1.out rfl; exact absurd hy (hab y)
    | false =>
      go_wp2_with fail
      exact HK.out _ _ ⟨rfl, rfl, rfl, rfl, rfl, rfl, rfl, rfl, rfl, rfl⟩ ⟨n, _, _, _, _, D, mv, by omega, by omega, E2.out, TW'.out, TR.out, EL2.out, hzN3⟩
set_option maxRecDepth 1000000 in
set_option maxHeartbeats 16000000 in
theorem sw9 {N : Nat} {W : World} {f : Nat → Value} {s1 s2 : Int} {A : Option Addr} {len cap g1 g2 b9 k b11 : Nat} {nv : Int} {th : Bool} {wc : World} {K : Go.Act → World → Prop} {Q : Exit → Go.Act → World → Prop} {n : Nat} {F1 F2 : Nat → Prop} {c d : List (Cell Key)} {D : DataW Unit} {mv : Key → Option Int} {xa xn : Int} {xk : Key} (q0 : xa ≠ 0) (q2 : xa ≠ 2) (q3 : xa ≠ 3)
    (hk1 : k < 200) (hnk : n ≤ k) (hcn : cnt c ≤ k) (BO0 : Hid (Base N wc F1 F2 g1 g2 b9 n D s1 s2 c d)) (TW : Hid (Two s1 s2 c d)) (TR : Hid (Trk D mv c)) (BL0 : Hid (Below N W wc)) (hzc : N ≤ wc.heap.size)
    (P11 : Hid (Blk wc b11 #[.int .i64 xa, .string ⟨xk.toArray⟩, .int .i64 xn] 34)) (HFA : Hid (∀ j, F1 j → j ≠ b11)) (HFB : Hid (∀ j, F2 j → j ≠ b11)) (hxk : xk.length ≤ 300) (HXN : Hid (In xn)) (hcl : c.length ≤ 10000)
    (HT1 : Hid (th = true → ∃ y : Nat, some (xk, y) ∈ c ∧ nv = (y : Int))) (HT0 : Hid (th = false → ∀ y, some (xk, y) ∉ c))
    (HK : Hid (∀ a' w', Fr a' s1 A len cap g1 g2 b9 k → Mid N W g1 g2 b9 s1 s2 (k + 1) w' → K a' w')) :
    Code.wp Try.prog sw (Exit.then K Q) ⟨#[.int .u64 s1, f 1, .slice A len cap, f 3, f 4, f 5, f 6, .pointer (some ⟨g1, 0, none⟩), .pointer (some ⟨g2, 0, none⟩), .map (some b9), f 10, .pointer (some ⟨b11, 0, none⟩), .int .i64 nv, .bool th, f 14, f 15, f 16, f 17, f 18, f 19, f 20, f 21, f 22, f 23, f 24, f 25, f 26, f 27, f 28, f 29, f 30, f 31, f 32, f 33, f 34, f 35, f 36, f 37, f 38, f 39, f 40, f 41, f 42, f 43, f 44, f 45, f 46, f 47, f 48, f 49, .slice A len cap, .int .i64 (len : Int), .int .i64 (k : Int), f 53, f 54, f 55, f 56, f 57, f 58, f 59, f 60, f 61, f 62, f 63, f 64, f 65, f 66, f 67, f 68, f 69, f 70, f 71, f 72, f 73, f 74, f 75, f 76, f 77, f 78, f 79, f 80, f 81, f 82, f 83, f 84, f 85, f 86, f 87, f 88, f 89, f 90, f 91, f 92, f 93, f 94, f 95, f 96, f 97, f 98, f 99, f 100, f 101, f 102, f 103, f 104, f 105, f 106, f 107, f 108, f 109, f 110, f 111, f 112, f 113, f 114, f 115, f 116, f 117, f 118, f 119, f 120, f 121, f 122, f 123, f 124, f 125, f 126, f 127, f 128, f 129, f 130, f 131, f 132, f 133, f 134, f 135, f 136, f 137, f 138, f 139, f 140, f 141, f 142, f 143, f 144, f 145, f 146, f 147, f 148, f 149, f 150, f 151, f 152, f 153, f 154, f 155, f 156, f 157, f 158, f 159, f 160, f 161, f 162, f 163, f 164, f 165, f 166, f 167, f 168, f 169, f 170, f 171, f 172, f 173, f 174, f 175, f 176, f 177, f 178, f 179, f 180, f 181, f 182, f 183, f 184, f 185, f 186, f 187, f 188, f 189, f 190, f 191, f 192, f 193, f 194, f 195, f 196, f 197, f 198, f 199, f 200, f 201, f 202, f 203, f 204, f 205, f 206, f 207, f 208, f 209, f 210, f 211, f 212, f 213, f 214, f 215, f 216, f 217, f 218, f 219, f 220, f 221, f 222, f 223, f 224, f 225, f 226, f 227, f 228, f 229, f 230, f 231, f 232, f 233, f 234, f 235, f 236, f 237, f 238, f 239, f 240, f 241, f 242, f 243, f 244, f 245, f 246, f 247, f 248, f 249, f 250, f 251, f 252, f 253, f 254, f 255, f 256, f 257, f 258, f 259, f 260, f 261, f 262, f 263, f 264, f 265, f 266, f 267, f 268, f 269, f 270, f 271, f 272, f 273, f 274, f 275, f 276, f 277, f 278, f 279, f 280, f 281, f 282, f 283, f 284, f 285, f 286, f 287, f 288, f 289, f 290, f 291, f 292, f 293, f 294, f 295, f 296, f 297, f 298, f 299, f 300, f 301, f 302, f 303], []⟩ wc := by
  have hu := And.intro hk1 (And.intro HFA.out (And.intro HFB.out (And.intro hxk (And.intro hcl (And.intro HT1.out HT0.out)))))
  clear hu
  have hxn2 := HXN.out.2
  have hNb := BO0.out.nb
  have hb9l := BO0.out.mp.lt
  have l11 : b11 < wc.heap.size := P11.out.lt
  obtain ⟨y0, y1, y2, _⟩ := P11.out.three
  conv => arg 2; whnf
  have i0 : (xa == 0) = false := by rw [beq_eq_false_iff_ne]; exact q0
  have i2 : (xa == 2) = false := by rw [beq_eq_false_iff_ne]; exact q2
  have i3 : (xa == 3) = false := by rw [beq_eq_false_iff_ne]; exact q3
  clear q0 q2 q3
  go_wp2_with fail
  exact HK.out _ _ ⟨rfl, rfl, rfl, rfl, rfl, rfl, rfl, rfl, rfl, rfl⟩ ⟨n, _, _, _, _, D, mv, by omega, by omega, BO0.out, TW.out, TR.out, BL0.out, hzc⟩
end Go.Proofs.Ythabnffmlgppdaa.Pzb
