/- Proves what the method empty of a table does. Conditions: as the theorem names them. -/
import Derived.Test.YthabnffmlgppdaaPd
import Derived.WalkMore
namespace Go.Proofs.Ythabnffmlgppdaa.Pe
open Go.RowKit Ap Mi Nw Rg Hm Tm Tn Ta Pm Pa Pb Pc Pd
open Th (hole_go hole_stop)

section
variable {F F' : Nat → Prop} {w w' : World} {g : Nat} {seed m : Int} {c : List (Cell Key)}
/-- What empty leaves. -/
def emptyPost (F : Nat → Prop) (w : World) (g : Nat) (seed m : Int) (c' : List (Cell Key)) : Ending → World → Prop := fun q w' =>
  q = .returned (.tuple #[]) ∧ Pl F w' g seed m c' ∧ Only F w w'
set_option maxRecDepth 100000 in
set_option maxHeartbeats 1000000 in
theorem empty_any (h : Pl F w g seed m c) (t : Tab (hom seed c.length) c) (hf : none ∈ c) {i : Nat} {k : Key} {x : Nat} (hi : c[i]? = some (some (k, x))) :
    Calls Try.prog 46 #[.pointer (some ⟨g, 0, none⟩), .int .i64 (i : Int)] w (emptyPost F w g seed m (delC (hom seed c.length) c i)) := by
  unfold emptyPost
  obtain ⟨z, hz⟩ := List.mem_iff_getElem?.1 hf
  have hil := lt_of_some hi
  have hzl := lt_of_some hz
  have hlim := h.lim
  have hne : i ≠ z := fun e => by rw [e, hz] at hi; cases hi
  have h2 : 2 ≤ c.length := by omega
  have HOL := Lib.hid (hole_start t hi hz h2)
  have HW0 : Hid (way c.length (pos c.length i 1) z < c.length) := way_lt (pos_lt hil (by omega)) hzl
  have HNX := Lib.hid (next_any h hil)
  have HH := Lib.hid h
  have HD0 : Hid (delC (hom seed c.length) c i = holeC (hom seed c.length) c.length c i (pos c.length i 1)) := rfl
  obtain ⟨D, hD⟩ : ∃ D, D = delC (hom seed c.length) c i := ⟨_, rfl⟩
  rw [← hD] at HD0 ⊢
  obtain ⟨L, hL⟩ : ∃ L, L = c.length := ⟨_, rfl⟩
  rw [← hL] at HOL HW0 HD0 HNX hil h2 hlim
  have HLL := Lib.hid hL.symm
  clear h t hf hi hz hD hL hne hzl
  go_enter Try.func46, Try.ntmps46
  go_wp2_with fail
  go_step3
  go_wp2_with fail
  go_step3
  go_wp2_with fail
  refine HNX.out.mono ?_
  rintro e w1 ⟨rfl, rfl⟩
  go_wp2_with fail
  go_loopw [1, 4] (fun hq ii wr => ∃ (f hx ix : Nat) (d : List (Cell Key)), hq = .int .i64 (hx : Int) ∧ ii = .int .i64 (ix : Int) ∧ Hid (Hole (hom seed L) d hx ix z) ∧ Hid (way L ix z < f) ∧ Hid (D = holeC (hom seed L) f d hx ix) ∧ Hid (d.length = L) ∧ Pl F wr g seed m d ∧ Only F w wr) (fun _ ii _ => way L (intOf ii).toNat z)
  case atStart => exact ⟨L, i, pos L i 1, c, rfl, rfl, HOL, HW0, HD0, HLL, HH.out, Only.refl _ _⟩
  case round =>
    obtain ⟨f, hx, ix, d, rfl, rfl, HL, HW, HD, HLen, hp, ho⟩ := hrel
    have HP := Lib.hid hp; have HO := Lib.hid ho
    have hzr := ho.size
    have hixd : ix < d.length := HL.out.i_lt
    have hhd : hx < d.length := HL.out.q_lt
    have hdl : d.length ≤ 1000000 := hp.lim
    clear hp ho
    obtain ⟨o, hgo, _⟩ := get_of hixd
    have HG := Lib.hid hgo
    obtain ⟨gA, oA, cap, hB, lA, hFA, hne, e0, e1, _, _, hM⟩ := HP.out.slot hgo
    obtain ⟨p0, p1⟩ := pc_get d hx hhd
    have k0 := mine_cell hM p0
    have k1 := mine_cell hM p1
    rw [← Nat.add_assoc] at k1
    obtain ⟨v0, vf0⟩ := k0
    obtain ⟨v1, vf1⟩ := k1
    have HBk := Lib.hid hB; have HMi := Lib.hid hM; have HFA := Lib.hid hFA
    obtain ⟨c0, c1, c2, _⟩ := hB.three
    have lg : g < wr.heap.size := hB.lt
    have i1 : (ix : Int) < (d.length : Int) := by omega
    clear hB hgo hM hFA p0 p1
    cases o with
    | none =>
      have a0 : wr.cell? ⟨gA, oA + ix * 2, none⟩ = some (.string ⟨#[]⟩) := e0
      have a1 : wr.cell? ⟨gA, oA + ix * 2 + 1, none⟩ = some (.int .i64 0) := e1
      have HW1 := Lib.hid (Pl.put HP.out HBk.out HFA.out hne HMi.out hhd (o := none) (fun _ _ e => by cases e))
      have HDD : Hid (D = d.set hx none) := by show _ = _; rw [HD.out]; exact hole_stop HW.out HG.out
      clear e0 e1
      go_wp2_with fail
      rw [Exit.noGoto_normal]
      go_end0
      rw [HDD.out]
      exact ⟨rfl, HW1.out.1.below (bnew _ _) (Nat.le_refl _), (HO.out.trans (HW1.out.2.mono fun _ _ hf => Or.inl hf)).alloc _⟩
    | some ky =>
      obtain ⟨k', x'⟩ := ky
      have a0 : wr.cell? ⟨gA, oA + ix * 2, none⟩ = some (.string ⟨k'.toArray⟩) := e0
      have a1 : wr.cell? ⟨gA, oA + ix * 2 + 1, none⟩ = some (.int .i64 (x' : Int)) := e1
      obtain ⟨hk1, hk2, hx1⟩ := HP.out.kys k' x' (List.mem_of_getElem? HG.out)
      have hbe : List.isEmpty k' = false := by cases k' with
        | nil => simp at hk1
        | cons _ _ => rfl
      have bA := bnew wr (.cells #[.string ⟨k'.toArray⟩, .int .i64 (x' : Int)] 79)
      have HPA := Lib.hid (HP.out.below bA (Nat.le_refl _))
      have HBA := Lib.hid (HBk.out.below bA lg); have HMA := Lib.hid (HMi.out.below bA (Nat.le_refl _))
      have HOA := Lib.hid (HO.out.alloc (.cells #[.string ⟨k'.toArray⟩, .int .i64 (x' : Int)] 79))
      obtain ⟨f', hf1, hf2, hf3, hgm, hgs⟩ := hole_go HL.out (by rw [HLen.out]; exact HW.out) HG.out
      have Hf1 := Lib.hid hf1; have Hf2 := Lib.hid hf2; have Hf3 := Lib.hid hf3; have Hgm := Lib.hid hgm; have Hgs := Lib.hid hgs
      have hhm := hom_lt seed d.length (by omega) k'
      have HHM := Lib.hid (phome_any HPA.out k' (by omega))
      have HNE := Lib.hid HL.out.ne
      obtain ⟨a, ha⟩ : ∃ a, a = hom seed d.length k' := ⟨_, rfl⟩
      have HAE : Hid (a = hom seed L k') := by show _ = _; rw [ha, HLen.out]
      rw [← ha] at hhm HHM
      have HME := Lib.hid (met hhm hhd hixd HL.out.ne)
      clear e0 e1 bA hf1 hf2 hf3 hgm hgs ha
      go_wp2_with fail
      refine HHM.out.mono ?_
      rintro e w4 ⟨rfl, hb4⟩
      have HP4 := Lib.hid (HPA.out.below hb4 (Nat.le_refl _))
      have HB4 := Lib.hid (HBA.out.below hb4 (by simp; omega)); have HM4 := Lib.hid (HMA.out.below hb4 (Nat.le_refl _))
      have HC4 : Hid (Blk w4 wr.heap.size #[.string ⟨k'.toArray⟩, .int .i64 (x' : Int)] 79) := (Blk.new wr _ _).below hb4 (by simp)
      have HO4 := Lib.hid (HOA.out.trans (Only.of_below hb4 (Nat.le_refl _) _))
      have lz4 : wr.heap.size < w4.heap.size := HC4.out.lt
      clear hb4 c0 c1 c2 a0 a1 v0 v1 vf0 vf1
      have HWY := Lib.hid (pway_any HP4.out hhm hixd)
      have HWQ := Lib.hid (pway_any HP4.out hhd hixd)
      obtain ⟨s1, hs1⟩ : ∃ s, s = way d.length a ix := ⟨_, rfl⟩
      obtain ⟨s2, hs2⟩ : ∃ s, s = way d.length hx ix := ⟨_, rfl⟩
      rw [← hs1] at HWY HME
      rw [← hs2] at HWQ HME
      have HS1 := Lib.hid hs1
      clear hs1 hs2
      go_wp2_with fail
      refine HWY.out.mono ?_
      rintro e w5 ⟨rfl, rfl⟩
      go_wp2_with fail
      refine HWQ.out.mono ?_
      rintro e w5 ⟨rfl, rfl⟩
      by_cases hcmp : s2 ≤ s1
      · have hcI : (s2 : Int) ≤ (s1 : Int) := by omega
        have HC : Hid (way d.length (hom seed L k') hx < way d.length (hom seed L k') ix) := by show _ < _; rw [← HAE.out, ← HS1.out]; exact HME.out.1 hcmp
        obtain ⟨c0, c1, c2, _⟩ := HB4.out.three
        obtain ⟨t0, t1, _, _⟩ := HC4.out.two
        obtain ⟨p0, p1⟩ := pc_get d hx hhd
        have k1 := mine_cell HM4.out p1
        rw [← Nat.add_assoc] at k1
        obtain ⟨v0, vf0⟩ := mine_cell HM4.out p0
        obtain ⟨v1, vf1⟩ := k1
        have j1 : (hx : Int) < (d.length : Int) := by omega
        have lg4 : g < w4.heap.size := HB4.out.lt
        have lA4 : gA < w4.heap.size := (HM4.out.base rfl).2.1
        have HW4 := Lib.hid (Pl.put HP4.out HB4.out HFA.out hne HM4.out hhd (o := some (k', x')) (fun _ _ e => by cases e; exact ⟨hk1, hk2, hx1⟩))
        obtain ⟨m1, m2, m3⟩ := hole_move HL.out HG.out HC.out
        have HL4 := Lib.hid m1
        clear hcmp p0 p1 m1 m2 m3
        go_wp2_with fail
        go_region
        obtain ⟨w6, hw6⟩ : ∃ w6, w6 = (w4.setCell ⟨gA, oA + hx * 2, none⟩ (.string ⟨k'.toArray⟩)).setCell ⟨gA, oA + hx * 2 + 1, none⟩ (.int .i64 (x' : Int)) := ⟨_, rfl⟩
        have HP6 : Hid (Pl F w6.drew g seed m (d.set hx (some (k', x')))) := by show Pl _ _ _ _ _ _; rw [hw6]; exact HW4.out.1.only ((Only.refl (fun _ => False) _).drew) (fun _ _ hf => hf)
        have HO6 : Hid (Only F w w6.drew) := by show Only _ _ _; rw [hw6]; exact (HO4.out.trans (HW4.out.2.mono fun _ _ hf => Or.inl hf)).drew
        have HNXa := Lib.hid (next_any HP6.out (i := ix) (by rw [List.length_set]; exact hixd))
        rw [List.length_set] at HNXa
        rw [← hw6]
        clear hw6 c0 c1 c2 t0 t1 v0 v1 vf0 vf1
        obtain ⟨y, hy⟩ : ∃ y, y = pos d.length ix 1 := ⟨_, rfl⟩
        have HYE : Hid (y = pos L ix 1) := by show _ = _; rw [hy, HLen.out]
        have HYD := Lib.hid hy
        rw [← hy] at HNXa
        clear hy
        go_wp2_with fail
        refine HNXa.out.mono ?_
        rintro e w7 ⟨rfl, rfl⟩
        go_wp2_with fail
        go_roundw
        case rel =>
          refine ⟨f', ix, y, d.set hx (some (k', x')), rfl, rfl, by rw [HYD.out]; exact HL4, ?_, ?_, by show _ = _; rw [List.length_set]; exact HLen.out, HP6.out, HO6.out⟩
          · show _ < _; rw [HYD.out, ← HLen.out]; exact Hf2.out
          · show _ = _; rw [HD.out, HYD.out]; exact Hgm.out HC.out
        case measure =>
          have := Hf3.out
          rw [HLen.out] at this
          simp only [intOf, Int.toNat_natCast, HYE.out]; omega
      · have hcI : ¬ (s2 : Int) ≤ (s1 : Int) := by omega
        have HC : Hid (¬ way d.length (hom seed L k') hx < way d.length (hom seed L k') ix) := by show ¬ _; rw [← HAE.out, ← HS1.out]; exact fun h => hcmp (HME.out.2 h)
        have HL4 := Lib.hid (hole_skip HL.out HG.out HC.out)
        have HNXa := Lib.hid (next_any HP4.out hixd)
        obtain ⟨y, hy⟩ : ∃ y, y = pos d.length ix 1 := ⟨_, rfl⟩
        have HYE : Hid (y = pos L ix 1) := by show _ = _; rw [hy, HLen.out]
        have HYD := Lib.hid hy
        rw [← hy] at HNXa HL4
        clear hy hcmp
        go_wp2_with fail
        refine HNXa.out.mono ?_
        rintro e w7 ⟨rfl, rfl⟩
        go_wp2_with fail
        go_roundw
        case rel =>
          refine ⟨f', hx, y, d, rfl, rfl, HL4, ?_, ?_, HLen, HP4.out, HO4.out⟩
          · show _ < _; rw [HYD.out, ← HLen.out]; exact Hf2.out
          · show _ = _; rw [HD.out, HYD.out]; exact Hgs.out HC.out
        case measure =>
          have := Hf3.out
          rw [HLen.out] at this
          simp only [intOf, Int.toNat_natCast, HYE.out]; omega
end
end Go.Proofs.Ythabnffmlgppdaa.Pe
