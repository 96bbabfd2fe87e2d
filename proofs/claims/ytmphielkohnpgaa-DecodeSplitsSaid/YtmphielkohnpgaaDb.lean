/- Proves what the specification's All returns: the frames and the errors that come out of bytes, in two rows of the call's own. Conditions: few bytes; a maximum that is allowed. -/
import Derived.Test.YtmphielkohnpgaaDs
import Derived.Test.YtmphielkohnpgaaDa
namespace Go.Proofs.Ytmphielkohnpgaa.Db
open Go.RowKit Vm Ap Vw Va Gc Fm Fw Mi Mb Fr Dm Dl Fo Da Ds

/-- What All leaves. -/
def rallPost (w : World) (m : Int) (l : Bs) : Ending → World → Prop := fun e w' =>
  Below w.heap.size w w' ∧ ∃ FA fc EA ec fs, e = .returned (.tuple #[.slice FA (allG m l).length fc, .slice EA (allG m l).length ec]) ∧ Outs w.heap.size w' FA fc EA ec fs ((allG m l).map (·.2.2)) ∧ saysF fs (allG m l)
set_option maxRecDepth 100000 in
set_option maxHeartbeats 8000000 in
theorem rall_any (A : Option Addr) (l : Bs) (n c : Nat) (m : Int) (w : World) (hn : l.length = n) (hA : Arg w A l c) (hm : okM m) (hl : l.length ≤ 100000) :
    Calls Try.prog 23 #[.slice A n c, .int .i64 m] w (rallPost w m l) := by
  subst hn
  obtain ⟨w2, hw2⟩ : ∃ w2, w2 = w.alloc (.cells #[.int .i64 m, .slice A l.length c, .bool false] 31) := ⟨_, rfl⟩
  have B2 : Below w.heap.size w w2 := by rw [hw2]; exact below_new _ _
  have ca : Cel3 w2 w.heap.size (.int .i64 m) (.slice A l.length c) (.bool false) := by rw [hw2]; exact Cel3.new w _ _ _ _
  have HB2 := Lib.hid B2; have CA := Lib.hid ca
  have hz2 : w.heap.size < w2.heap.size := ca.lt
  have HM := Lib.hid hm; have HA := Lib.hid hA
  clear hA hm ca B2
  go_enter Try.func23, Try.ntmps23
  go_wp2_with fail
  rw [← hw2]
  clear hw2
  go_loopw [7, 8] (fun u v wr => ∃ (s : St) (done : List Got) (X : Option Addr) (k : Nat) (FA : Option Addr) (fc : Nat) (EA : Option Addr) (ec : Nat) (fs : List Frm), u = .slice FA done.length fc ∧ v = .slice EA done.length ec ∧
      Cel3 wr w.heap.size (.int .i64 m) (.slice X s.held.length k) (.bool s.shut) ∧ Arg w X s.held k ∧
      Outs w2.heap.size wr FA fc EA ec fs (done.map (·.2.2)) ∧ saysF fs done ∧ done ++ tailG m s [] = allG m l ∧ s.held.length ≤ l.length ∧ Below w.heap.size w wr ∧ w2.heap.size ≤ wr.heap.size) (fun u _ _ => (allG m l).length - lenV u)
  case atStart =>
    refine ⟨⟨l, false⟩, [], A, c, none, 0, none, 0, [], rfl, rfl, CA.out, HA.out, Outs.nil _ _, rfl, ?_, Nat.le_refl _, HB2.out, Nat.le_refl _⟩
    simp [tailG]
  case round =>
    obtain ⟨s, done, X, k, FA, fc, EA, ec, fs, rfl, rfl, hc, hx, ho, hs, ha, hl1, hb, hz⟩ := hrel
    obtain ⟨⟨cd, p, er⟩, hG⟩ : ∃ x, nxG m s = x := ⟨_, rfl⟩
    have HG := Lib.hid hG
    have HOr := Lib.hid (rnext_any (w := wr) (A := X) (c := k) (n0 := s.held.length) (b := s.shut) rfl rfl HM.out (arg_below hx hb (Nat.le_refl _)) (by omega))
    unfold rnextPost at HOr
    rw [hG] at HOr
    simp only at HOr
    have HO := Lib.hid ho; have HS := Lib.hid hs; have HAL := Lib.hid ha; have HBR := Lib.hid hb; have HZ := Lib.hid hz; have HX := Lib.hid hx; have HC := Lib.hid hc
    obtain ⟨a0, a1, a2, af0, af1, af2⟩ := hc
    clear hx ho hs ha hb hG
    go_wp2_with fail
    refine HOr.out.mono ?_
    rintro e w3 ⟨X', k', V, vc, rfl, hx, _, hv, hb3⟩
    have HX3 := Lib.hid (hx w HX.out)
    have HV3 := Lib.hid hv
    have HO3 := Lib.hid (HO.out.below hb3 (Nat.le_refl _))
    have HB3 : Hid (Below w.heap.size w w3) := HBR.out.trans (hb3.mono HBR.out.size)
    have HC3 := Lib.hid (HC.out.below hb3 (Nat.le_refl _))
    have hz3 : w2.heap.size ≤ w3.heap.size := Nat.le_trans hz hb3.size
    have hnl := Nat.le_trans (nxS_len m s) hl1
    have hwr := hb3.size
    clear a0 a1 a2 af0 af1 af2
    obtain ⟨a0, a1, a2, af0, af1, af2⟩ := HC3.out
    clear hx hv hb3
    by_cases h4 : er = 4 ∨ er = 14
    case pos =>
      have HE : Hid (done = allG m l) := by
        show _ = _
        have := HAL.out
        rwa [tail_end s (by rw [HG.out]; exact h4), List.append_nil] at this
      have HB5 : Hid (∀ o q, Below w3.heap.size w3 ((w3.alloc o).alloc q)) := fun o q => two_below w3 o q
      rcases h4 with rfl | rfl
      all_goals
        go_wp2_with fail
        go_ret2
        refine ⟨HB3.out.trans ((HB5.out _ _).mono HB3.out.size), FA, fc, EA, ec, fs, by rw [← HE.out]; rfl, ?_, by rw [← HE.out]; exact HS.out⟩
        rw [← HE.out]
        exact (HO3.out.below (HB5.out _ _) (Nat.le_refl _)).mono (Nat.le_of_lt hz2)
    case neg =>
      have e4 : ((er : Int) == 4) = false := by rw [beq_eq_false_iff_ne]; omega
      have e14 : ((er : Int) == 14) = false := by rw [beq_eq_false_iff_ne]; omega
      have HE : Hid (tailG m s [] = (cd, p, er) :: tailG m (nxS m s) []) := by
        show _ = _
        have := tail_take HM.out s [] (by rw [HG.out]; simp only; omega) (by rw [HG.out]; simp only; omega)
        rwa [HG.out] at this
      have hall : done.length + 1 ≤ (allG m l).length := by rw [← HAL.out, HE.out]; simp
      have hal := allG_len HM.out l
      have hfl := saysF_len HS.out
      obtain ⟨n', hn'⟩ : ∃ n', n' = (nxS m s).held.length := ⟨_, rfl⟩
      obtain ⟨b', hb'⟩ : ∃ b', b' = (nxS m s).shut := ⟨_, rfl⟩
      rw [← hn', ← hb']
      have HN' := Lib.hid hn'; have HB' := Lib.hid hb'
      obtain ⟨w4, hw4⟩ : ∃ w4, w4 = ((((w3.setCell ⟨w.heap.size, 0, none⟩ (.int .i64 m)).setCell ⟨w.heap.size, 1, none⟩ (.slice X' n' k')).setCell ⟨w.heap.size, 2, none⟩ (.bool b')).alloc (.cells #[.int .i64 m, .slice X' n' k', .bool b'] 31)).alloc (.cells #[.int .u8 (cd.toNat : Int), .slice V p.length vc] 39) := ⟨_, rfl⟩
      have O4 : Hid (Only (fun j => j = w.heap.size) w3 w4) := by
        show Only _ _ _
        rw [hw4]
        exact ((((Only.refl (fun j => j = w.heap.size) w3).put (ad := ⟨w.heap.size, 0, none⟩) rfl _).put (ad := ⟨w.heap.size, 1, none⟩) rfl _).put (ad := ⟨w.heap.size, 2, none⟩) rfl _).alloc _ |>.alloc _
      have hz4 : w4.heap.size = w3.heap.size + 1 + 1 := by rw [hw4]; simp
      have HC4 : Hid (Cel3 w4 w.heap.size (.int .i64 m) (.slice X' n' k') (.bool b')) := by
        show Cel3 _ _ _ _ _
        rw [hw4]
        exact (HC3.out.set _ _ _).below (two_below _ _ _) (Nat.le_refl _)
      have l1 : w.heap.size < w3.heap.size := by omega
      clear h4 hn' hb'
      have B4 : Hid (Below w.heap.size w w4) := HB3.out.trans (O4.out.below (fun j hf => by omega) (by omega))
      have HO4 := Lib.hid (HO3.out.only O4.out (fun j hj _ hf => by omega))
      have B5 : Hid (Below w4.heap.size w4 (w4.alloc (.cells #[.int .u8 (cd.toNat : Int), .slice V p.length vc] 39))) := below_new w4 _
      have HO5 := Lib.hid (HO4.out.below B5.out (Nat.le_refl _))
      have HM5 := Lib.hid HO5.out.mf
      rw [hfl] at HM5
      have hz5 : (w4.alloc (.cells #[.int .u8 (cd.toNat : Int), .slice V p.length vc] 39)).heap.size = w3.heap.size + 1 + 1 + 1 := by simp; omega
      have HV5 := Lib.hid ((rb_only HV3.out.rd O4.out (fun a ha hf => by have := (HV3.out.base a ha).1; omega)).below B5.out (Nat.le_refl _))
      have HVB5 : Hid (∀ a, V = some a → w2.heap.size ≤ a.block ∧ a.block < (w4.alloc (.cells #[.int .u8 (cd.toNat : Int), .slice V p.length vc] 39)).heap.size ∧ (∀ b, FA = some b → a.block ≠ b.block) ∧ ∀ b, EA = some b → a.block ≠ b.block) := fun a ha => by
        have h1 := HV3.out.base a ha
        refine ⟨by omega, by omega, fun b hb => ?_, fun b hb => ?_⟩
        · have := (HO.out.mf.base hb).2.1; omega
        · have := (HO.out.me.base hb).2.1; omega
      go_wp2_with (at_builtin; (rw [← hw4]; refine wpList_mine rfl _ _ elmF _ rfl rfl HM5.out _ rfl 1 _ (src_nb hz4 #[.int .u8 (cd.toNat : Int), .slice V p.length vc] Try.underlying48 rfl (one_frame _ _ _ _)) (by omega) (by omega) (by simp; omega) ?_))
      intro A' c' w6 m1 g1 d1
      rw [← hw4] at g1
      have HO6 := Lib.hid (HO5.out.pushF' hfl hz5 cd V p vc HV5.out HVB5.out m1 g1 d1)
      have O6 : Only (fun j => w2.heap.size ≤ j) w4 w6 := (Only.of_below B5.out (Nat.le_refl _) _).trans ((Only.of_grown g1 (F := fun j => w2.heap.size ≤ j) (fun k e => by
        rw [Option.map_eq_some_iff] at e
        obtain ⟨a, ha, e⟩ := e
        rw [← e]; exact (HM5.out.base ha).1)).mono (fun _ _ hf => Or.inl hf))
      have HC6 := Lib.hid (HC4.out.only O6 (by omega))
      have HB6 : Hid (Below w.heap.size w w6) := B4.out.trans (O6.below (fun j hf => by omega) (by omega))
      have hz6 : w2.heap.size ≤ w6.heap.size := Nat.le_trans (by omega) O6.size
      obtain ⟨es, hes⟩ : ∃ es, es = done.map (fun x => x.2.2) := ⟨_, rfl⟩
      rw [← hes] at HO6
      have hel : es.length = done.length := by rw [hes, List.length_map]
      have HES := Lib.hid hes
      have HM6 : Hid (Mine w2.heap.size 1 (w6.alloc (.cells #[.int .i64 (er : Int)] 3)) EA done.length ec (es.map errV)) := by
        have := (HO6.out.below (below_new w6 (.cells #[.int .i64 (er : Int)] 3)) (Nat.le_refl _)).me
        rw [hel] at this
        exact this
      have HO7 := Lib.hid (HO6.out.below (below_new w6 (.cells #[.int .i64 (er : Int)] 3)) (Nat.le_refl _))
      clear hes m1 g1 d1 hw4 O6 HO5 HM5 HV5 HVB5 B5 hz5 hz4 a0 a1 a2 af0 af1 af2
      go_wp2_with (at_builtin; (refine wpList_mine rfl _ _ elmI _ rfl rfl HM6.out _ rfl 1 _ (src_lit #[.int .i64 (er : Int)] Try.underlying52 rfl (one_cell _ _)) (by omega) (by omega) (by simp; omega) ?_))
      intro E' e' w7 m2 g2 d2
      have HO8 := Lib.hid (HO7.out.pushE' (n := done.length) (nb := w6.heap.size + 1) hel (by simp) er m2 g2 d2)
      have O7 : Only (fun j => w2.heap.size ≤ j) w6 w7 := (Only.of_below (below_new w6 _) (Nat.le_refl _) _).trans ((Only.of_grown g2 (F := fun j => w2.heap.size ≤ j) (fun k e => by
        rw [Option.map_eq_some_iff] at e
        obtain ⟨a, ha, e⟩ := e
        rw [← e]; exact (HM6.out.base ha).1)).mono (fun _ _ hf => Or.inl hf))
      have HC7 := Lib.hid (HC6.out.only O7 (by omega))
      have HB7 : Hid (Below w.heap.size w w7) := HB6.out.trans (O7.below (fun j hf => by omega) (by omega))
      have hz7 : w2.heap.size ≤ w7.heap.size := Nat.le_trans hz6 O7.size
      clear m2 g2 d2 O7
      go_wp2_with fail
      go_roundw
      case rel =>
        refine ⟨nxS m s, done ++ [(cd, p, er)], X', k', A', c', E', e', fs ++ [⟨cd, V, vc, p⟩], by rw [List.length_append]; rfl, by rw [List.length_append]; rfl, by rw [← HN'.out, ← HB'.out]; exact HC7.out, HX3.out, ?_, saysF_snoc HS.out _ _ ⟨rfl, rfl⟩, ?_, hnl, HB7.out, hz7⟩
        · rw [List.map_append, ← HES.out]; exact HO8.out
        · rw [List.append_assoc, List.singleton_append, ← HE.out]; exact HAL.out
      case measure =>
        simp only [lenV]; omega
end Go.Proofs.Ytmphielkohnpgaa.Db
