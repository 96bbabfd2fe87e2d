/- Proves that TablePlays returns true at every argument. Conditions: as the row gives them. -/
import Derived.Test.YthabnffmlgppdaaPq
import Derived.Test.YthabnffmlgppdaaPx
namespace Go.Proofs.Ythabnffmlgppdaa.Pr
open Go.RowKit Ap Mi Nw Rg Hm Tm Tn Ta Tb Pm Pa Pb Pc Pd Pe Pf Pg Ph Pn Pj Pk Pp Pq Px
open Td (rnew_any len_none)

set_option maxRecDepth 100000 in
set_option maxHeartbeats 8000000 in
theorem plays_walk (seed : Int) (D : Option Addr) (q0 : Nat) (l : List Px.Act) (W : World) (hs : U64 seed) (ha : Rs W 3 D l.length q0 (acL l)) (hl : ∀ x ∈ l, x.2.1.length ≤ 9223372036854775807 ∧ In x.2.2) :
    Calls Try.prog 3 #[.int .u64 seed, .slice D l.length q0] W (boolTo true W) := by
  have HSM := Lib.hid (small_any D q0 l W ha (fun x hx => (hl x hx).1))
  unfold smallPost at HSM
  have HD := Lib.hid ha
  have HL := Lib.hid hl
  have HSD := Lib.hid hs
  have hdl := ha.le
  have hdm := ha.max
  unfold maxLen at hdm
  clear ha hl hs
  obtain ⟨N, hN⟩ : ∃ N, N = W.heap.size := ⟨_, rfl⟩
  have HN := Lib.hid hN
  unfold boolTo
  rw [← hN]
  clear hN
  go_enter Try.func3, Try.ntmps3
  go_wp2_with fail
  refine HSM.out.mono ?_
  rintro e w1 ⟨rfl, b, rfl, hb⟩
  cases b with
  | false =>
    clear hb
    go_wp2_with fail
    refine (known_any W).mono ?_
    rintro e w1 ⟨rfl, hb⟩
    have HB := Lib.hid hb
    clear hb
    go_wp2_with fail
    go_ret
    exact ⟨rfl, by rw [HN.out]; exact HB.out⟩
  | true =>
    have HF := Lib.hid (hb rfl)
    have hl120 := (hb rfl).1
    have HNW := Lib.hid (new_any seed W HSD.out)
    unfold Pc.newPost at HNW
    rw [← HN.out] at HNW
    clear hb HSM
    go_wp2_with fail
    refine HNW.out.mono ?_
    rintro e w1 ⟨g, rfl, ha, hb⟩
    have HA := Lib.hid ha.tight; have HB1 := Lib.hid hb
    have hz1 : N ≤ w1.heap.size := by rw [HN.out]; exact hb.size
    have HRN := Lib.hid (rnew_any seed w1)
    unfold Td.newPost at HRN
    clear ha hb HNW
    go_wp2_with fail
    refine HRN.out.mono ?_
    rintro e w2 ⟨X0, p0, Y0, q1, rfl, ho, hb⟩
    obtain ⟨b7, hb7⟩ : ∃ b7, b7 = w2.heap.size := ⟨_, rfl⟩
    obtain ⟨w3, hw3⟩ : ∃ w3, w3 = w2.alloc (.cells #[.int .u64 seed, .slice X0 8 p0, .slice Y0 8 q1] 31) := ⟨_, rfl⟩
    have b3 : Below w2.heap.size w2 w3 := by rw [hw3]; exact bnew w2 _
    have P7 : Hid (Blk w3 b7 #[.int .u64 seed, .slice X0 (List.replicate 8 (none : Cell Key)).length p0, .slice Y0 (List.replicate 8 (none : Cell Key)).length q1] 31) := by show Blk _ _ _ _; rw [hw3, hb7]; exact Blk.new _ _ _
    have hz2 := hb.size
    have b13 : Below w1.heap.size w1 w3 := hb.trans (b3.mono hz2)
    have HA3 := Lib.hid (HA.out.below b13 (Nat.le_refl _))
    have HB3 := Lib.hid (HB1.out.trans (b13.mono hz1))
    have hz3 : w1.heap.size ≤ w3.heap.size := b13.size
    have l7 : w1.heap.size ≤ b7 := by omega
    have l7' : b7 < w3.heap.size := P7.out.lt
    have HTB := Lib.hid (ho.tb.below b3 (Nat.le_refl _))
    have HBO : Hid (Both N w3 (fun j => N ≤ j ∧ j < w1.heap.size) g seed (List.replicate 8 none) X0 p0 Y0 q1) :=
      ⟨HA3.out, HTB.out, fun j hj => ⟨hj.1, by omega⟩, (fun a ha => by have := ho.ks.base ha; exact ⟨fun hf => by have := hf.2; omega, by omega⟩), (fun a ha => by have := ho.ns.base ha; exact ⟨fun hf => by have := hf.2; omega, by omega⟩)⟩
    have NX0 : Hid (∀ a, X0 = some a → a.block ≠ b7) := fun a ha => by have := (ho.ks.base ha).2.1; omega
    have NY0 : Hid (∀ a, Y0 = some a → a.block ≠ b7) := fun a ha => by have := (ho.ns.base ha).2.1; omega
    clear b3 b13 hb ho HRN
    go_wp2_with fail
    rw [← hw3, ← hb7]
    clear hw3 hb7
    go_loopw [5, 22] (fun av i wr => ∃ (k g : Nat) (F : Nat → Prop) (c : List (Cell Key)) (X Y : Option Addr) (p q : Nat), k ≤ l.length ∧ av = .pointer (some ⟨g, 0, none⟩) ∧ i = .int .i64 (k : Int) ∧ cnt c ≤ k ∧ Both N wr F g seed c X p Y q ∧ Blk wr b7 #[.int .u64 seed, .slice X c.length p, .slice Y c.length q] 31 ∧ ¬ F b7 ∧ (∀ a, X = some a → a.block ≠ b7) ∧ (∀ a, Y = some a → a.block ≠ b7) ∧ Below N W wr ∧ N ≤ wr.heap.size) (fun _ i _ => l.length - (intOf i).toNat)
    case atStart => exact ⟨0, g, _, _, X0, Y0, p0, q1, Nat.zero_le _, rfl, rfl, by rw [cnt_none]; exact Nat.le_refl _, HBO.out, P7.out, (fun hf => by have := hf.2; omega), NX0.out, NY0.out, HB3.out, by omega⟩
    case round =>
      obtain ⟨k, g, F, c, X, Y, p, q, hk, rfl, rfl, hcn, hbo, h7, hF7, hX7, hY7, hbl, hNr⟩ := hrel
      have BO := Lib.hid hbo; have K7 := Lib.hid h7; have KF := Lib.hid hF7; have KX := Lib.hid hX7; have KY := Lib.hid hY7; have BL := Lib.hid hbl
      have hfew := hbo.t.good.few
      have hcl : c.length ≤ 10000 := by omega
      clear hbo h7 hF7 hX7 hY7 hbl hfew
      by_cases hlt : k < l.length
      · have j1 : (k : Int) < (l.length : Int) := by omega
        obtain ⟨f0, f1, f2⟩ := acL_get l k hlt
        have RD := HD.out.rd.below BL.out (by have := HN.out; omega)
        obtain ⟨tb, to_, rfl, ltb, a0⟩ := RD.at_ f0
        obtain ⟨tb', to', e1, _, a1⟩ := RD.at_ f1
        injection e1 with e1; injection e1 with e11 e12; subst e11; subst e12
        obtain ⟨tb', to', e1, _, a2⟩ := RD.at_ f2
        injection e1 with e1; injection e1 with e11 e12; subst e11; subst e12
        rw [← Nat.add_assoc] at a1 a2
        have hxk := few_at HF.out hlt
        have hxn := (HL.out _ (List.getElem_mem hlt)).2.2
        obtain ⟨⟨xa, xk, xn⟩, hx⟩ : ∃ x, x = l[k] := ⟨_, rfl⟩
        rw [← hx] at a0 a1 a2 hxk hxn
        simp only at a0 a1 a2 hxk hxn
        obtain ⟨v0, hv0⟩ : ∃ v0, v0 = wr.alloc (.cells #[.int .i64 xa, .string ⟨xk.toArray⟩, .int .i64 xn] 34) := ⟨_, rfl⟩
        obtain ⟨b10, hb10⟩ : ∃ b10, b10 = wr.heap.size := ⟨_, rfl⟩
        have b0 : Below wr.heap.size wr v0 := by rw [hv0]; exact bnew _ _
        have P10 : Hid (Blk v0 b10 #[.int .i64 xa, .string ⟨xk.toArray⟩, .int .i64 xn] 34) := by show Blk _ _ _ _; rw [hv0, hb10]; exact Blk.new _ _ _
        have J7 := Lib.hid (K7.out.below b0 K7.out.lt)
        have BO0 := Lib.hid (BO.out.below b0 (Nat.le_refl _))
        have BL0 := Lib.hid (BL.out.trans (b0.mono hNr))
        have lz0 : wr.heap.size < v0.heap.size := by rw [hv0]; simp
        have l10 : b10 < v0.heap.size := P10.out.lt
        have l77 : b7 < v0.heap.size := J7.out.lt
        have l7r : b7 < wr.heap.size := K7.out.lt
        have DO := Lib.hid (do_any BO0.out (by omega) hcl xa xk hxk xn hxn)
        unfold doPost at DO
        clear f0 f1 f2 RD hx b0
        go_upto_region 9 with (fail)
        rw [← hv0, ← hb10]
        clear hv0 hb10 a0 a1 a2
        obtain ⟨y0, y1, y2, _⟩ := P10.out.three
        obtain ⟨x0, x1, x2, xf0, xf1, xf2⟩ := J7.out.three
        go_wp2_with fail
        refine DO.out.mono ?_
        rintro r v1 ⟨g', F', c', X', p', Y', q', rfl, hc', hbo, ho, fx, fy, hF'⟩
        have BO1 := Lib.hid hbo; have O1 := Lib.hid ho; have FX := Lib.hid fx; have FY := Lib.hid fy; have FF := Lib.hid hF'
        have I7 := Lib.hid (J7.out.only ho KF.out)
        have lz1 : v0.heap.size ≤ v1.heap.size := ho.size
        have BL1 : Hid (Below N W v1) := BL0.out.trans (ho.below (fun j hj => (BO0.out.fl j hj).1) (by omega))
        clear hbo ho fx fy hF' DO x0 x1 x2 xf0 xf1 xf2 y0 y1 y2
        obtain ⟨x0, x1, x2, xf0, xf1, xf2⟩ := I7.out.three
        have l77' : b7 < v1.heap.size := I7.out.lt
        go_upto_region 11 with (fail)
        obtain ⟨v2, hv2⟩ : ∃ v2, v2 = ((v1.setCell ⟨b7, 0, none⟩ (.int .u64 seed)).setCell ⟨b7, 1, none⟩ (.slice X' c'.length p')).setCell ⟨b7, 2, none⟩ (.slice Y' c'.length q') := ⟨_, rfl⟩
        have O2 : Only (fun j => j = b7) v1 v2 := by rw [hv2]; exact three_only _ _ _
        have H7 : Hid (Blk v2 b7 #[.int .u64 seed, .slice X' c'.length p', .slice Y' c'.length q'] 31) := by
          have h1 := ((I7.out.set 0 (.int .u64 seed)).set 1 (.slice X' c'.length p')).set 2 (.slice Y' c'.length q')
          show Blk _ _ _ _
          rw [hv2]; exact h1
        have NF : Hid (¬ F' b7) := fun hf => by rcases FF.out _ hf with h | h; exact KF.out h; omega
        have NX : Hid (∀ a, X' = some a → a.block ≠ b7) := fun a ha => by rcases FX.out a ha with h | h; exact KX.out a h; omega
        have NY : Hid (∀ a, Y' = some a → a.block ≠ b7) := fun a ha => by rcases FY.out a ha with h | h; exact KY.out a h; omega
        have BO2 := Lib.hid (BO1.out.only O2 (fun j e hf => NF.out (by rw [← e]; exact hf)) NX.out NY.out)
        have BL2 : Hid (Below N W v2) := BL1.out.trans (O2.below (fun j e => by omega) (by omega))
        have lz2 : v1.heap.size ≤ v2.heap.size := O2.size
        rw [← hv2]
        clear hv2 O2 x0 x1 x2 xf0 xf1 xf2
        obtain ⟨x0, x1, x2, xf0, xf1, xf2⟩ := H7.out.three
        have LK := Lib.hid (looks_true BO2.out.t BO2.out.s)
        unfold boolTo at LK
        go_wp2_with fail
        refine LK.out.mono ?_
        rintro r v3 ⟨rfl, hb⟩
        have H73 := Lib.hid (H7.out.below hb H7.out.lt)
        have BO3 := Lib.hid (BO2.out.below hb (Nat.le_refl _))
        have BL3 := Lib.hid (BL2.out.trans (hb.mono (by omega)))
        have lz3 : v2.heap.size ≤ v3.heap.size := hb.size
        clear hb LK x0 x1 x2 xf0 xf1 xf2
        go_wp2_with fail
        go_roundw
        case rel => exact ⟨k + 1, g', F', c', X', Y', p', q', by omega, rfl, by go_num, by omega, BO3.out, H73.out, NF.out, NX.out, NY.out, BL3.out, by omega⟩
        case measure => simp [intOf]; omega
      · obtain rfl : k = l.length := by omega
        have hnn : ¬ (l.length : Int) < l.length := by omega
        go_wp2_with fail
        refine (known_any _).mono ?_
        rintro r v ⟨rfl, hbk⟩
        have HBK := Lib.hid hbk
        clear hbk
        go_wp2_with fail
        go_ret
        exact ⟨rfl, BL.out.trans (HBK.out.mono hNr)⟩
end Go.Proofs.Ythabnffmlgppdaa.Pr
