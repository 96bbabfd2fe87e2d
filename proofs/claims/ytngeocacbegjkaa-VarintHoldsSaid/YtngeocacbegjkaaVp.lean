/- Proves what Clone, GetBytes and New return, and the specification's GetBytes: the bytes whose length a list begins with, or the errors. Conditions: few bytes. -/
import Derived.Test.YtngeocacbegjkaaVg
namespace Go.Proofs.Ytngeocacbegjkaa.Vp
open Go.RowKit Vm Ap Vw Va Vr Vg

theorem ints_byteV (l : Bs) : (l.map fun b => (b.toNat : Int)).map (Value.int .u8) = l.map byteV := by rw [List.map_map]; rfl
theorem clone_any (A : Option Addr) (l : Bs) (c : Nat) (w : World) (hA : Rb w A l) (hl : l.length ≤ 1000000) :
    Calls Try.prog 30 #[.slice A l.length c] w (bytesPost w l) := by
  cases A with
  | none =>
    have h0 : l = [] := by
      rcases Nat.eq_zero_or_pos l.length with h0 | h0
      · exact List.eq_nil_of_length_eq_zero h0
      · obtain ⟨_, _, e, _⟩ := hA h0; cases e
    subst h0
    refine (Try.bytes_Clone_nil _ c w).mono ?_
    rintro e w' ⟨rfl, rfl⟩
    exact ⟨_, rfl, own_nil _ _, Below.refl _ _⟩
  | some a =>
    refine (Try.bytes_Clone_at a l.length c (l.map fun b => (b.toNat : Int)) w (by simp) (by omega) ?_).mono ?_
    · intro i hi
      obtain ⟨b, o, e, _, hc⟩ := hA (by omega)
      injection e with e
      subst e
      rw [add_plain, hc i hi]
      simp [List.getElem?_eq_getElem hi]
    · rintro e w' ⟨v, rfl, h1, _, h3⟩
      refine ⟨v, rfl, ?_, h3⟩
      rw [ints_byteV] at h1
      exact h1

theorem clone_n (A : Option Addr) (l : Bs) (n c : Nat) (w : World) (hn : l.length = n) (hA : Rb w A l) (hl : l.length ≤ 1000000) :
    Calls Try.prog 30 #[.slice A n c] w (bytesPost w l) := by subst hn; exact clone_any A l c w hA hl
theorem Rb.sub {w : World} {b o : Nat} {l : Bs} (h : Rb w (some ⟨b, o, none⟩) l) (s n : Nat) : Rb w (some ⟨b, o + s, none⟩) ((l.drop s).take n) := fun h0 => by
  rw [List.length_take, List.length_drop] at h0
  obtain ⟨b', o', e, hlt, hcell⟩ := h (by omega)
  injection e with e
  injection e with e1 e2
  subst e1; subst e2
  refine ⟨b, o + s, rfl, hlt, fun i hi => ?_⟩
  rw [List.length_take, List.length_drop] at hi
  rw [Nat.add_assoc, hcell (s + i) (by omega), List.getElem_take, List.getElem_drop]

def partPost (w : World) (l : Bs) (most : Int) : Ending → World → Prop := fun e w' =>
  ∃ v, e = .returned (.tuple #[v, .int .i64 ((partV l most).2.1 : Int), .int .i64 ((partV l most).2.2 : Int)]) ∧ Own w.heap.size w' v (partV l most).1 ∧ Below w.heap.size w w'
theorem part_no {w : World} {l : Bs} {most : Int} {k : Nat} {x : Value} {y z : Value} (h : partV l most = ([], 0, k)) (hx : x = .slice none 0 0) (hy : y = .int .i64 0) (hz : z = .int .i64 (k : Int)) : partPost w l most (.returned (.tuple #[x, y, z])) w := by
  refine ⟨.slice none 0 0, ?_, ?_, Below.refl _ _⟩
  · rw [h, hx, hy, hz]; rfl
  · rw [h]; exact own_nil _ _

set_option maxRecDepth 100000 in
set_option maxHeartbeats 1000000 in
theorem getB_any (A : Option Addr) (l : Bs) (c : Nat) (most : Int) (w : World) (hA : Rb w A l) (hl : l.length ≤ 1000000) (hlc : l.length ≤ c) (hm1 : -9223372036854775808 ≤ most) (hm2 : most ≤ 9223372036854775807) :
    Calls Try.prog 19 #[.slice A l.length c, .int .i64 most] w (partPost w l most) := by
  by_cases hm : most < 0
  · have HP := Lib.hid (part_arg (l := l) hm)
    go_enter Try.func19, Try.ntmps19
    go_wp2_with fail
    go_ret3
    exact part_no HP.out rfl rfl rfl
  · have h0 : 0 ≤ most := by omega
    have HM := Lib.hid hm
    obtain ⟨g1, g2, g3⟩ := get_lt l
    have HG : Hid (∀ W, Rb W A l → Calls Try.prog 25 #[.slice A l.length c] W (getPost W l)) := fun W h => get_any A l c W h hl
    clear hm
    by_cases he : getE l = 0
    · have HE := Lib.hid he
      have HGR : Hid (getR l = .tuple #[.int .u64 (getN l : Int), .int .i64 (getS l : Int), .int .i64 0]) := by show _ = _; unfold getR; rw [he]; rfl
      clear he
      by_cases hn : most < (getN l : Int)
      · have HP := Lib.hid (part_long HM.out HE.out hn)
        unfold big at g1
        generalize getN l = n at *
        generalize getS l = s at *
        go_enter Try.func19, Try.ntmps19
        go_wp2_with fail
        refine (HG.out _ hA).mono ?_
        rintro e w' ⟨rfl, rfl⟩
        rw [HGR.out]
        go_wp2_with fail
        go_ret3
        exact part_no HP.out rfl rfl rfl
      · have HN := Lib.hid hn
        have hn' : (getN l : Int) ≤ most := by omega
        clear hn
        by_cases hs : l.length - getS l < getN l
        · have HP := Lib.hid (part_short HM.out HE.out HN.out hs)
          unfold big at g1
          generalize getN l = n at *
          generalize getS l = s at *
          have hs' : (l.length : Int) - s < n := by omega
          clear hs
          go_enter Try.func19, Try.ntmps19
          go_wp2_with fail
          refine (HG.out _ hA).mono ?_
          rintro e w' ⟨rfl, rfl⟩
          rw [HGR.out]
          go_wp2_with fail
          go_ret3
          exact part_no HP.out rfl rfl rfl
        · have HP := Lib.hid (part_ok HM.out HE.out HN.out hs)
          have hpos : 0 < l.length := by
            have := (get_has l HE.out).1
            have := enc_pos (getN l)
            omega
          unfold big at g1
          generalize getN l = n at *
          generalize getS l = s at *
          have hs' : (n : Int) ≤ (l.length : Int) - s := by omega
          clear hs
          obtain ⟨b, o, rfl, _, _⟩ := hA hpos
          have hlen : ((l.drop s).take n).length = n := by rw [List.length_take, List.length_drop]; omega
          have HLEN := Lib.hid hlen; clear hlen
          have hsub := Rb.sub hA s n
          have HSUB := Lib.hid hsub; clear hsub
          by_cases hn0 : n = 0
          · subst hn0
            go_enter Try.func19, Try.ntmps19
            go_wp2_with fail
            refine (HG.out _ hA).mono ?_
            rintro e w' ⟨rfl, rfl⟩
            rw [HGR.out]
            go_wp2_with fail
            refine (clone_n _ ([] : Bs) 0 _ _ rfl (Rb.nil _ _) (by simp)).mono ?_
            rintro e w1 ⟨v1, rfl, h1, b1⟩
            have H1 := Lib.hid h1; have B1 := Lib.hid b1; clear h1 b1
            go_wp2_with fail
            go_ret3
            exact ⟨v1, by rw [HP.out]; rfl, by rw [HP.out]; exact H1.out, B1.out⟩
          · go_enter Try.func19, Try.ntmps19
            go_wp2_with fail
            refine (HG.out _ hA).mono ?_
            rintro e w' ⟨rfl, rfl⟩
            rw [HGR.out]
            go_wp2_with fail
            refine (clone_n _ ((l.drop s).take n) n _ _ HLEN.out HSUB.out (by rw [HLEN.out]; omega)).mono ?_
            rintro e w1 ⟨v1, rfl, h1, b1⟩
            have H1 := Lib.hid h1; have B1 := Lib.hid b1; clear h1 b1
            go_wp2_with fail
            go_ret3
            exact ⟨v1, by rw [HP.out]; rfl, by rw [HP.out]; exact H1.out, B1.out⟩
    · have HP := Lib.hid (part_err HM.out he)
      obtain ⟨e1, e2, e3⟩ := get_no l he
      have HGR : Hid (getR l = .tuple #[.int .u64 0, .int .i64 0, .int .i64 (getE l : Int)]) := by show _ = _; unfold getR; rw [e2, e3]; rfl
      have hne : ((getE l : Int) != 0) = true := by rw [bne_iff_ne]; omega
      clear he e2 e3 g1 g2 g3
      generalize getE l = E at *
      go_enter Try.func19, Try.ntmps19
      go_wp2_with fail
      refine (HG.out _ hA).mono ?_
      rintro e w' ⟨rfl, rfl⟩
      rw [HGR.out]
      go_wp2_with fail
      go_ret3
      exact part_no HP.out rfl rfl rfl

/-- 'append(out, s...)' where the number of bytes is at hand. -/
theorem wpList_at {ops : Array Oper} {rest : List Oper} {o : Oper} {a : Act} {Q : Exit → Act → World → Prop} {w : World} (hgd : o.guard = none) (s x : Operand)
    (ho : o.op = .call { callee := .builtin .append, args := #[s, x], argTypes := #[22, 22] })
    {B : Nat} {v : Value} {l : Bs} (hs : a.eval s = v) (hown : Own B w v l) (m : Bs) (A : Option Addr) (c n : Nat)
    (hx : a.eval x = .slice A n c) (hmn : m.length = n) (hA : A = none → c = 0) (hr : Rb w A m) (hn : l.length ≤ 1000000) (hm : m.length ≤ 1000000) (hB : B ≤ w.heap.size)
    (h : ∀ v' w', Own B w' v' (l ++ m) → w.grownBy w' v.ownBlock → wpList Try.prog ops Q rest (a.put o.dst v') w') :
    wpList Try.prog ops Q (o :: rest) a w := by
  subst hmn; exact wpList_from hgd s x ho hs hown m A c hx hA hr hn hm hB h

set_option maxRecDepth 100000 in
set_option maxHeartbeats 1000000 in
theorem rgetB_any (A : Option Addr) (l : Bs) (c : Nat) (most : Int) (w : World) (hA : Rb w A l) (hl : l.length ≤ 1000000) (hlc : l.length ≤ c) (hm1 : -9223372036854775808 ≤ most) (hm2 : most ≤ 9223372036854775807) :
    Calls Try.prog 17 #[.slice A l.length c, .int .i64 most] w (partPost w l most) := by
  by_cases hm : most < 0
  · have HP := Lib.hid (part_arg (l := l) hm)
    go_enter Try.func17, Try.ntmps17
    go_wp2_with fail
    go_ret3
    exact part_no HP.out rfl rfl rfl
  · have h0 : 0 ≤ most := by omega
    have HM := Lib.hid hm
    obtain ⟨g1, g2, g3⟩ := get_lt l
    have HG : Hid (∀ W, Rb W A l → Calls Try.prog 15 #[.slice A l.length c] W (getPost W l)) := fun W h => rget_any A l c W h hl
    clear hm
    by_cases he : getE l = 0
    · have HE := Lib.hid he
      have HGR : Hid (getR l = .tuple #[.int .u64 (getN l : Int), .int .i64 (getS l : Int), .int .i64 0]) := by show _ = _; unfold getR; rw [he]; rfl
      clear he
      by_cases hn : most < (getN l : Int)
      · have HP := Lib.hid (part_long HM.out HE.out hn)
        unfold big at g1
        generalize getN l = n at *
        generalize getS l = s at *
        go_enter Try.func17, Try.ntmps17
        go_wp2_with fail
        refine (HG.out _ hA).mono ?_
        rintro e w' ⟨rfl, rfl⟩
        rw [HGR.out]
        go_wp2_with fail
        go_ret3
        exact part_no HP.out rfl rfl rfl
      · have HN := Lib.hid hn
        have hn' : (getN l : Int) ≤ most := by omega
        clear hn
        by_cases hs : l.length - getS l < getN l
        · have HP := Lib.hid (part_short HM.out HE.out HN.out hs)
          unfold big at g1
          generalize getN l = n at *
          generalize getS l = s at *
          have hs' : (l.length : Int) - s < n := by omega
          clear hs
          go_enter Try.func17, Try.ntmps17
          go_wp2_with fail
          refine (HG.out _ hA).mono ?_
          rintro e w' ⟨rfl, rfl⟩
          rw [HGR.out]
          go_wp2_with fail
          go_ret3
          exact part_no HP.out rfl rfl rfl
        · have HP := Lib.hid (part_ok HM.out HE.out HN.out hs)
          have hpos : 0 < l.length := by
            have := (get_has l HE.out).1
            have := enc_pos (getN l)
            omega
          unfold big at g1
          generalize getN l = n at *
          generalize getS l = s at *
          have hs' : (n : Int) ≤ (l.length : Int) - s := by omega
          clear hs
          obtain ⟨b, o, rfl, _, _⟩ := hA hpos
          have hlen : ((l.drop s).take n).length = n := by rw [List.length_take, List.length_drop]; omega
          have HLEN := Lib.hid hlen; clear hlen
          have hsub := Rb.sub hA s n
          have HSUB := Lib.hid hsub; clear hsub
          have HON := Lib.hid (own_nil w.heap.size w)
          have hnl : n ≤ 1000000 := by omega
          by_cases hc0 : c = s
          · obtain rfl : n = 0 := by omega
            subst hc0
            clear HSUB
            go_enter Try.func17, Try.ntmps17
            go_wp2_with fail
            refine (HG.out _ hA).mono ?_
            rintro e w' ⟨rfl, rfl⟩
            rw [HGR.out]
            go_wp2_with (at_builtin; (refine wpList_at rfl _ _ rfl rfl HON.out ([] : Bs) _ _ 0 rfl rfl (fun e => by cases e) (Rb.nil _ _) (by simp) (by simp) (Nat.le_refl _) ?_))
            intro v1 w1 h1 g1
            have H1 := Lib.hid h1
            have B1 := Lib.hid (below_of_grown g1 (Nat.le_refl _) (by intro k e; cases e))
            clear h1 g1
            go_wp2_with fail
            go_ret3
            exact ⟨v1, by rw [HP.out]; rfl, by rw [HP.out]; exact H1.out, B1.out⟩
          · go_enter Try.func17, Try.ntmps17
            go_wp2_with fail
            refine (HG.out _ hA).mono ?_
            rintro e w' ⟨rfl, rfl⟩
            rw [HGR.out]
            go_wp2_with (at_builtin; (refine wpList_at rfl _ _ rfl rfl HON.out ((l.drop s).take n) _ _ (s + n - s) rfl (by rw [HLEN.out]; omega) (fun e => by cases e) HSUB.out (by simp) (by rw [HLEN.out]; exact hnl) (Nat.le_refl _) ?_))
            intro v1 w1 h1 g1
            have H1 := Lib.hid h1
            have B1 := Lib.hid (below_of_grown g1 (Nat.le_refl _) (by intro k e; cases e))
            clear h1 g1
            go_wp2_with fail
            go_ret3
            exact ⟨v1, by rw [HP.out]; rfl, by rw [HP.out]; exact H1.out, B1.out⟩
    · have HP := Lib.hid (part_err HM.out he)
      obtain ⟨e1, e2, e3⟩ := get_no l he
      have HGR : Hid (getR l = .tuple #[.int .u64 0, .int .i64 0, .int .i64 (getE l : Int)]) := by show _ = _; unfold getR; rw [e2, e3]; rfl
      have hne : ((getE l : Int) != 0) = true := by rw [bne_iff_ne]; omega
      clear he e2 e3 g1 g2 g3
      generalize getE l = E at *
      go_enter Try.func17, Try.ntmps17
      go_wp2_with fail
      refine (HG.out _ hA).mono ?_
      rintro e w' ⟨rfl, rfl⟩
      rw [HGR.out]
      go_wp2_with fail
      go_ret3
      exact part_no HP.out rfl rfl rfl
end Go.Proofs.Ytngeocacbegjkaa.Vp
