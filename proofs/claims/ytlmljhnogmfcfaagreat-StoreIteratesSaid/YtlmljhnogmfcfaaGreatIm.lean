/- Proves what the store's Keys returns. Conditions: as the theorem names them. -/
import Derived.Test.YtlmljhnogmfcfaaGreatIl
namespace Go.Proofs.YtlmljhnogmfcfaaGreat.Ep
open Go.RowKit Ap Mi Nw Ea Eb Ec Ed Ee El Ia Ib Ic Ik Ie If Ig Il

theorem strs_app (a b : List ByteArray) : strs (a ++ b) = strs a ++ strs b := List.map_append
section
variable {F : Nat → Prop} {w : World} {g : Nat} {s : Sx}
set_option maxRecDepth 100000 in
set_option maxHeartbeats 1000000 in
theorem keys_any (h : St F w g s) : Calls Tryz.prog 33 #[.pointer (some ⟨g, 0, none⟩)] w (keysPost w (keysL s.l)) := by
 obtain ⟨p, ns, q, c, hB, hF⟩ := h.has
 have HLI := Lib.hid (list_any hB)
 have HE := Lib.hid (kept_e hB.rel)
 have hlen : (kept c.E ns).length ≤ 1048576 := by have h1 := kept_len c.E ns; have h2 := hB.rel.len; have h3 := hB.rel.ok.le; have h4 := hB.rel.ok.bb.2.2.2; omega
 obtain ⟨l, hl⟩ : ∃ l, l = kept c.E ns := ⟨_, rfl⟩
 rw [← hl] at HLI HE hlen
 clear h hB hF hl
 have HT : Hid (∀ K (h : K < l.length), keysL ((l.map Em.e).take (K + 1)) = keysL ((l.map Em.e).take K) ++ [l[K].e.k]) := fun K h => by rw [keysL_take (by rw [List.length_map]; exact h)]; simp
 have HX : Hid (keysL ((l.map Em.e).take l.length) = keysL s.l) := by show _ = _; rw [List.take_of_length_le (by simp), HE.out]
 have HLN : Hid (∀ K, K ≤ l.length → (keysL ((l.map Em.e).take K)).length = K) := fun K h => by unfold keysL; rw [List.length_map, List.length_take, List.length_map]; omega
 have HZ : Hid (keysL ((l.map Em.e).take 0) = []) := rfl
 obtain ⟨U, hU⟩ : ∃ U : Nat → List ByteArray, U = fun K => keysL ((l.map Em.e).take K) := ⟨_, rfl⟩
 replace HT : Hid (∀ K (h : K < l.length), U (K + 1) = U K ++ [l[K].e.k]) := by show ∀ K h, _; rw [hU]; exact HT.out
 replace HX : Hid (U l.length = keysL s.l) := by show _ = _; rw [hU]; exact HX.out
 replace HLN : Hid (∀ K, K ≤ l.length → (U K).length = K) := by show ∀ K, _ → _; rw [hU]; exact HLN.out
 replace HZ : Hid (U 0 = []) := by show _ = _; rw [hU]; exact HZ.out
 rw [← HX.out]
 clear hU
 unfold keysPost
 go_enter Tryz.func33, Tryz.ntmps33
 go_wp2_with fail
 refine HLI.out.mono ?_
 rintro _ v0 ⟨A, n, rfl, hmi, hb0⟩
 have HB0 := Lib.hid hb0
 have HMI := Lib.hid hmi
 have hz0 := hb0.size
 clear hmi hb0 HLI
 go_wp2_with fail
 go_loopw [3, 9] (fun s i wr => ∃ (K : Nat) (D : Option Addr) (d : Nat), K ≤ l.length ∧ i = .int .i64 (K : Int) ∧ s = .slice D K d ∧ Mine v0.heap.size 1 wr D K d (strs (U K)) ∧ Below v0.heap.size v0 wr) (fun _ i _ => l.length - (intOf i).toNat)
 case atStart => exact ⟨0, none, 0, Nat.zero_le _, rfl, rfl, by rw [HZ.out]; exact Mine.nil _ _ _, Below.refl _ _⟩
 case round =>
  obtain ⟨K, D, d, hK, rfl, rfl, hm, hb⟩ := hrel
  have HM := Lib.hid hm; have HB := Lib.hid hb
  have hmx := hm.max
  have hml := hm.le
  unfold maxLen at hmx
  clear hm
  have hbs := hb.size
  clear hb
  by_cases hlt : K < l.length
  ·have j1 : (K : Int) < (l.length : Int) := by omega
   have HS3 := Lib.hid (HT.out K hlt)
   obtain ⟨e0, e1, e2, e3, e4, e5⟩ := emL_get l K hlt
   obtain ⟨bb, o, rfl, _, lb⟩ := mine_place HMI.out (by rw [emL_len]; omega)
   have HMR := HMI.out.below HB.out (Nat.le_refl _)
   have a0 := (mine_cell HMR e0).1; have a1 := (mine_cell HMR e1).1; have a2 := (mine_cell HMR e2).1; have a3 := (mine_cell HMR e3).1; have a4 := (mine_cell HMR e4).1; have a5 := (mine_cell HMR e5).1
   rw [← Nat.add_assoc] at a1 a2 a3 a4 a5
   obtain ⟨y, hy⟩ : ∃ y, y = l[K] := ⟨_, rfl⟩
   rw [← hy] at a0 a1 a2 a3 a4 a5 HS3
   clear hy HMR e0 e1 e2 e3 e4 e5
   obtain ⟨w1, hw1⟩ : ∃ w1, w1 = wr.alloc (.cells (emA y) 42) := ⟨_, rfl⟩
   have HBW : Hid (Below wr.heap.size wr w1) := by show Below _ _ _; rw [hw1]; exact bnew _ _
   have hzw := HBW.out.size
   have HSY : Hid (Src Tryz.prog 1 39 (.slice (some ⟨w1.heap.size, 0, none⟩) 1 1) 1 (strs [y.e.k]) (w1.alloc (.cells #[.string y.e.k] 9))) := Nc.src_lit Tryz.underlying39 #[.string y.e.k] 1 1 rfl (strs_one [y.e.k])
   have HM1 := Lib.hid ((HM.out.below HBW.out (Nat.le_refl _)).below (bnew w1 (.cells #[.string y.e.k] 9)) (Nat.le_refl _))
   have HMW := Lib.hid (HM.out.below HBW.out (Nat.le_refl _))
   have hs1 : w1.heap.size = wr.heap.size + 1 := by rw [hw1]; simp
   rw [hs1] at HSY
   rw [hw1] at HSY HM1
   clear hs1
   unfold emA at HSY HM1 hw1
   have HW1 := Lib.hid hw1
   clear hw1
   go_wp2_with (at_builtin; (refine wpList_mine rfl _ _ elS _ rfl rfl HM1.out _ rfl 1 _ HSY.out (by omega) (by omega) (by simp; omega) ?_))
   intro D2 d2 w2 m2 g2 e2
   rw [← HW1.out] at g2
   have HM2 : Hid (Mine v0.heap.size 1 w2 D2 (K + 1) d2 (strs (U (K + 1)))) := by show Mine _ _ _ _ _ _ _; rw [HS3.out, strs_app]; exact m2
   have HB2 : Hid (Below v0.heap.size v0 w2) := HB.out.trans ((HBW.out.mono hbs).trans (((bnew w1 (.cells #[.string y.e.k] 9)).mono (by omega)).trans ((Nc.only_row (F := fun j => v0.heap.size ≤ j) g2 (fun b hb => (HM.out.base hb).1)).below (fun _ h => h) (by simp; omega))))
   clear m2 g2 e2 HW1 a0 a1 a2 a3 a4 a5 HSY HM1
   go_wp2_with fail
   go_roundw
   case rel => exact ⟨K + 1, D2, d2, by omega, by go_num, rfl, HM2.out, HB2.out⟩
   case measure => simp [intOf]; omega
  ·obtain rfl : K = l.length := by omega
   have hnn : ¬ (l.length : Int) < l.length := by omega
   clear hlt
   go_wp2_with fail
   go_ret
   exact ⟨D, d, by rw [HLN.out _ (Nat.le_refl _)]; rfl, by rw [HLN.out _ (Nat.le_refl _)]; exact Rs.mine HM.out, HB0.out.trans (HB.out.mono hz0)⟩
end
end Go.Proofs.YtlmljhnogmfcfaaGreat.Ep
