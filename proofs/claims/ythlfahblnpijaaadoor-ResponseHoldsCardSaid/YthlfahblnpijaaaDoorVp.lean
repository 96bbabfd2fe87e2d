/- Proves what GetBytes returns: the bytes whose length a list begins with, or the errors. Conditions: few bytes. -/
import Derived.Test.YthlfahblnpijaaaDoorVg
import Derived.Test.YthlfahblnpijaaaDoorVc
namespace Go.Proofs.YthlfahblnpijaaaDoor.Vp
open Go.RowKit Vm Ap Vw Va Vg Vc

def partPost (w : World) (l : Bs) (most : Int) : Ending → World → Prop := fun e w' =>
  ∃ v, e = .returned (.tuple #[v, .int .i64 ((partV l most).2.1 : Int), .int .i64 ((partV l most).2.2 : Int)]) ∧ Own w.heap.size w' v (partV l most).1 ∧ Below w.heap.size w w'
theorem part_no {w : World} {l : Bs} {most : Int} {k : Nat} {x : Value} {y z : Value} (h : partV l most = ([], 0, k)) (hx : x = .slice none 0 0) (hy : y = .int .i64 0) (hz : z = .int .i64 (k : Int)) : partPost w l most (.returned (.tuple #[x, y, z])) w := by
  refine ⟨.slice none 0 0, ?_, ?_, Below.refl _ _⟩
  · rw [h, hx, hy, hz]; rfl
  · rw [h]; exact own_nil _ _

set_option maxRecDepth 100000 in
set_option maxHeartbeats 1000000 in
theorem getB_any (A : Option Addr) (l : Bs) (c : Nat) (most : Int) (w : World) (hA : Rb w A l) (hl : l.length ≤ 1000000000) (hlc : l.length ≤ c) (hm1 : -9223372036854775808 ≤ most) (hm2 : most ≤ 9223372036854775807) :
    Calls Tryd.prog 79 #[.slice A l.length c, .int .i64 most] w (partPost w l most) := by
  by_cases hm : most < 0
  · have HP := Lib.hid (part_arg (l := l) hm)
    go_enter Tryd.func79, Tryd.ntmps79
    go_wp2_with fail
    go_ret3
    exact part_no HP.out rfl rfl rfl
  · have h0 : 0 ≤ most := by omega
    have HM := Lib.hid hm
    obtain ⟨g1, g2, g3⟩ := get_lt l
    have HG : Hid (∀ W, Rb W A l → Calls Tryd.prog 58 #[.slice A l.length c] W (getPost W l)) := fun W h => get_any A l c W h hl
    clear hm
    by_cases he : getE l = 0
    · have HE := Lib.hid he
      have HGR : Hid (getR l = .tuple #[.int .u64 (getN l : Int), .int .i64 (getS l : Int), .int .i64 0]) := by show _ = _; unfold getR; rw [he]; rfl
      clear he
      by_cases hn : most < (getN l : Int)
      · have HP := Lib.hid (part_long HM.out HE.out hn)
        unfold big at g1
        generalize getN l = n at *
        generalize getS l = s at *
        go_enter Tryd.func79, Tryd.ntmps79
        go_wp2_with fail
        refine (HG.out _ hA).mono ?_
        rintro e w' ⟨rfl, rfl⟩
        rw [HGR.out]
        go_wp2_with fail
        go_ret3
        exact part_no HP.out rfl rfl rfl
      · have HN := Lib.hid hn
        have hn' : (getN l : Int) ≤ most := by omega
        clear hn
        by_cases hs : l.length - getS l < getN l
        · have HP := Lib.hid (part_short HM.out HE.out HN.out hs)
          unfold big at g1
          generalize getN l = n at *
          generalize getS l = s at *
          have hs' : (l.length : Int) - s < n := by omega
          clear hs
          go_enter Tryd.func79, Tryd.ntmps79
          go_wp2_with fail
          refine (HG.out _ hA).mono ?_
          rintro e w' ⟨rfl, rfl⟩
          rw [HGR.out]
          go_wp2_with fail
          go_ret3
          exact part_no HP.out rfl rfl rfl
        · have HP := Lib.hid (part_ok HM.out HE.out HN.out hs)
          have hpos : 0 < l.length := by
            have := (get_has l HE.out).1
            have := enc_pos (getN l)
            omega
          unfold big at g1
          generalize getN l = n at *
          generalize getS l = s at *
          have hs' : (n : Int) ≤ (l.length : Int) - s := by omega
          clear hs
          obtain ⟨b, o, rfl, _, _⟩ := hA hpos
          have hlen : ((l.drop s).take n).length = n := by rw [List.length_take, List.length_drop]; omega
          have HLEN := Lib.hid hlen; clear hlen
          have hsub := Rb.sub hA s n
          have HSUB := Lib.hid hsub; clear hsub
          by_cases hn0 : n = 0
          · subst hn0
            go_enter Tryd.func79, Tryd.ntmps79
            go_wp2_with fail
            refine (HG.out _ hA).mono ?_
            rintro e w' ⟨rfl, rfl⟩
            rw [HGR.out]
            go_wp2_with fail
            refine (clone_n _ ([] : Bs) 0 _ _ rfl (Rb.nil _ _) (by simp)).mono ?_
            rintro e w1 ⟨v1, rfl, h1, b1⟩
            have H1 := Lib.hid h1; have B1 := Lib.hid b1; clear h1 b1
            go_wp2_with fail
            go_ret3
            exact ⟨v1, by rw [HP.out]; rfl, by rw [HP.out]; exact H1.out, B1.out⟩
          · go_enter Tryd.func79, Tryd.ntmps79
            go_wp2_with fail
            refine (HG.out _ hA).mono ?_
            rintro e w' ⟨rfl, rfl⟩
            rw [HGR.out]
            go_wp2_with fail
            refine (clone_n _ ((l.drop s).take n) n _ _ HLEN.out HSUB.out (by rw [HLEN.out]; omega)).mono ?_
            rintro e w1 ⟨v1, rfl, h1, b1⟩
            have H1 := Lib.hid h1; have B1 := Lib.hid b1; clear h1 b1
            go_wp2_with fail
            go_ret3
            exact ⟨v1, by rw [HP.out]; rfl, by rw [HP.out]; exact H1.out, B1.out⟩
    · have HP := Lib.hid (part_err HM.out he)
      obtain ⟨e1, e2, e3⟩ := get_no l he
      have HGR : Hid (getR l = .tuple #[.int .u64 0, .int .i64 0, .int .i64 (getE l : Int)]) := by show _ = _; unfold getR; rw [e2, e3]; rfl
      have hne : ((getE l : Int) != 0) = true := by rw [bne_iff_ne]; omega
      clear he e2 e3 g1 g2 g3
      generalize getE l = E at *
      go_enter Tryd.func79, Tryd.ntmps79
      go_wp2_with fail
      refine (HG.out _ hA).mono ?_
      rintro e w' ⟨rfl, rfl⟩
      rw [HGR.out]
      go_wp2_with fail
      go_ret3
      exact part_no HP.out rfl rfl rfl
end Go.Proofs.YthlfahblnpijaaaDoor.Vp
