/- Proves that ExpiryPlays returns true at every argument. Conditions: as the row gives them. -/
import Derived.Test.YtpalbccoiejmoaaYi
import Derived.Test.YtpalbccoiejmoaaYk
import Derived.Deep.CutBlock
namespace Go.Proofs.Ytpalbccoiejmoaa.Yl
open Go.RowKit Ap Mi Nw Ya Yb Yc Yd Ye Yf Yg Yh Yi
open Yk (Ac acL acL_get acL_len)

set_option maxRecDepth 100000 in
set_option maxHeartbeats 8000000 in
theorem plays_walk (D : Option Addr) (q0 : Nat) (l : List Ac) (W : World) (ha : Rs W 3 D l.length q0 (acL l)) (hl : ∀ x ∈ l, Tm x.2.2) :
    Calls Try.prog 3 #[.slice D l.length q0] W (boolTo true W) := by
  have HD := Lib.hid ha
  have HL := Lib.hid hl
  have hdl := ha.le
  have hdm := ha.max
  unfold maxLen at hdm
  clear ha hl
  obtain ⟨N, hN⟩ : ∃ N, N = W.heap.size := ⟨_, rfl⟩
  have HN := Lib.hid hN
  unfold boolTo
  rw [← hN]
  clear hN
  by_cases h100 : 100 < l.length
  · have i1 : (100 : Int) < (l.length : Int) := by omega
    go_enter Try.func3, Try.ntmps3
    go_wp2_with fail
    refine (known_any W).mono ?_
    rintro e w1 ⟨rfl, hb⟩
    have HB := Lib.hid hb
    clear hb
    go_wp2_with fail
    go_ret
    exact ⟨rfl, by rw [HN.out]; exact HB.out⟩
  have i1 : (l.length : Int) ≤ 100 := by omega
  have hl100 : l.length ≤ 100 := by omega
  have HNW := Lib.hid (new_any W)
  unfold mkPost at HNW
  rw [← HN.out] at HNW
  clear h100
  go_enter Try.func3, Try.ntmps3
  go_wp2_with fail
  refine HNW.out.mono ?_
  rintro e w1 ⟨g, rfl, ha, hb⟩
  have HB1 := Lib.hid hb
  have HBO : Hid (Bo N (fun j => N ≤ j) w1 g none 0 []) := ⟨ha, Lt.nil _, fun _ h => h, fun a e => (by cases e), by rw [HN.out]; exact hb.size, fun a e => (by cases e)⟩
  clear ha hb HNW
  go_wp2_with fail
  go_loopw [3, 4, 17] (fun rv av i wr => ∃ (k g : Nat) (F : Nat → Prop) (A : Option Addr) (c : Nat) (L : List Td), k ≤ l.length ∧ rv = .pointer (some ⟨g, 0, none⟩) ∧ av = .slice A L.length c ∧ i = .int .i64 (k : Int) ∧ Bo N F wr g A c L ∧ Below N W wr) (fun _ _ i _ => l.length - (intOf i).toNat)
  case atStart => exact ⟨0, g, _, none, 0, [], Nat.zero_le _, rfl, rfl, rfl, HBO.out, HB1.out⟩
  case round =>
    obtain ⟨k, g, F, A, c, L, hk, rfl, rfl, rfl, hbo, hbl⟩ := hrel
    have BO := Lib.hid hbo; have BL := Lib.hid hbl
    have hNr := hbo.sz
    clear hbo hbl
    by_cases hlt : k < l.length
    · have j1 : (k : Int) < (l.length : Int) := by omega
      obtain ⟨f0, f1, f2⟩ := acL_get l k hlt
      have RD := HD.out.rd.below BL.out (by have := HN.out; omega)
      obtain ⟨tb, to_, rfl, ltb, a0⟩ := RD.at_ f0
      obtain ⟨tb', to', e1, _, a1⟩ := RD.at_ f1
      injection e1 with e1; injection e1 with e11 e12; subst e11; subst e12
      obtain ⟨tb', to', e1, _, a2⟩ := RD.at_ f2
      injection e1 with e1; injection e1 with e11 e12; subst e11; subst e12
      rw [← Nat.add_assoc] at a1 a2
      obtain ⟨⟨xa, xn, xt⟩, hx⟩ : ∃ x, x = l[k] := ⟨_, rfl⟩
      have hxt := HL.out l[k] (List.getElem_mem hlt)
      rw [← hx] at a0 a1 a2 hxt
      simp only at a0 a1 a2 hxt
      obtain ⟨v0, hv0⟩ : ∃ v0, v0 = wr.alloc (.cells #[.int .i64 xa, .int .i64 xn, .int .u64 xt] 30) := ⟨_, rfl⟩
      obtain ⟨b6, hb6⟩ : ∃ b6, b6 = wr.heap.size := ⟨_, rfl⟩
      have b0 : Below wr.heap.size wr v0 := by rw [hv0]; exact bnew _ _
      have P6 : Hid (Blk v0 b6 #[.int .i64 xa, .int .i64 xn, .int .u64 xt] 30) := by show Blk _ _ _ _; rw [hv0, hb6]; exact Blk.new _ _ _
      have BL0 := Lib.hid (BL.out.trans (b0.mono hNr))
      have lz0 : wr.heap.size < v0.heap.size := by rw [hv0]; simp
      have l6 : b6 < v0.heap.size := P6.out.lt
      have NF6 : Hid (¬ (F b6 ∧ b6 < wr.heap.size)) := fun h => by omega
      have DO := Lib.hid (do_any (F := fun j => F j ∧ j < wr.heap.size) ((BO.out.tight).below b0) xa xn xt hxt)
      unfold doPost at DO
      clear f0 f1 f2 RD hx b0 hxt
      go_upto_region 10 with (fail)
      rw [← hv0, ← hb6]
      clear hv0 hb6 a0 a1 a2
      obtain ⟨y0, y1, y2, _⟩ := P6.out.three
      go_wp2_with fail
      refine DO.out.mono ?_
      rintro r v1 ⟨g', A', c', F', rfl, hbo, hb, ho, _, _⟩
      have P61 := Lib.hid (P6.out.only ho NF6.out)
      have BL1 := Lib.hid (BL0.out.trans hb)
      have HLK := Lib.hid (looks_is hbo xn)
      have BO1 := Lib.hid hbo
      have hN1 := hbo.sz
      unfold boolTo at HLK
      obtain ⟨L', hL'⟩ : ∃ L', L' = stT L xa xn xt := ⟨_, rfl⟩
      rw [← hL'] at HLK BO1 ⊢
      clear hbo hb ho DO y0 y1 y2 hL'
      obtain ⟨y0, y1, y2, _⟩ := P61.out.three
      go_wp2_with fail
      refine HLK.out.mono ?_
      rintro r v2 ⟨rfl, hb⟩
      have BO2 := Lib.hid (BO1.out.below hb)
      have BL2 := Lib.hid (BL1.out.trans (hb.mono hN1))
      clear hb HLK y0 y1 y2
      go_wp2_with fail
      go_roundw
      case rel => exact ⟨k + 1, g', F', A', c', L', by omega, rfl, rfl, by go_num, BO2.out, BL2.out⟩
      case measure => simp [intOf]; omega
    · obtain rfl : k = l.length := by omega
      have hnn : ¬ (l.length : Int) < l.length := by omega
      go_wp2_with fail
      refine (known_any _).mono ?_
      rintro r v ⟨rfl, hbk⟩
      have HBK := Lib.hid hbk
      clear hbk
      go_wp2_with fail
      go_ret
      exact ⟨rfl, BL.out.trans (HBK.out.mono hNr)⟩
end Go.Proofs.Ytpalbccoiejmoaa.Yl
