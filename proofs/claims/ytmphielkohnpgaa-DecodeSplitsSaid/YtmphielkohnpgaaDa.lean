/- Proves what All returns: the frames and the errors that come out of bytes, in two rows of the call's own. Conditions: few bytes. -/
import Derived.Test.YtmphielkohnpgaaDp
import Derived.Test.YtmphielkohnpgaaDl
namespace Go.Proofs.Ytmphielkohnpgaa.Da
open Go.RowKit Vm Ap Vw Va Gc Fm Fw Mi Mb Fr Dm Dd Dn Dp Dl Fo

/-- The frames say what came. -/
def saysF (fs : List Frm) (gs : List Got) : Prop := fs.map (fun x => (x.c, x.p)) = gs.map (fun g => (g.1, g.2.1))
theorem saysF_len {fs : List Frm} {gs : List Got} (h : saysF fs gs) : fs.length = gs.length := by have := congrArg List.length h; simpa using this
theorem saysF_snoc {fs : List Frm} {gs : List Got} (h : saysF fs gs) (x : Frm) (g : Got) (hx : x.c = g.1 ∧ x.p = g.2.1) : saysF (fs ++ [x]) (gs ++ [g]) := by
  unfold saysF at *; rw [List.map_append, List.map_append, h]; simp [hx.1, hx.2]
/-- What All leaves. -/
def allPost (w : World) (m : Int) (l : Bs) : Ending → World → Prop := fun e w' =>
  Below w.heap.size w w' ∧ ((¬ okM m ∧ e = .returned (.tuple #[.slice none 0 0, .slice none 0 0, .int .i64 2])) ∨
  (okM m ∧ ∃ FA fc EA ec fs, e = .returned (.tuple #[.slice FA (allG m l).length fc, .slice EA (allG m l).length ec, .int .i64 0]) ∧ Outs w.heap.size w' FA fc EA ec fs ((allG m l).map (·.2.2)) ∧ saysF fs (allG m l)))
def lenV : Value → Nat
  | .slice _ n _ => n
  | _ => 0
set_option maxRecDepth 100000 in
set_option maxHeartbeats 4000000 in
theorem all_any (A : Option Addr) (l : Bs) (n c : Nat) (m : Int) (w : World) (hn : l.length = n) (hA : Rb w A l) (hAn : A = none → c = 0) (hl : l.length ≤ 100000) :
    Calls Try.prog 22 #[.slice A n c, .int .i64 m] w (allPost w m l) := by
  subst hn
  have hmf : ∀ (fn : Fn) (first cap : Array Value) (w : World), (Instr.makeFunc fn first cap).run Try.prog w = .ok (.func fn first cap) w := fun _ _ _ _ => rfl
  have HNW := Lib.hid (new_any m w)
  have HA := Lib.hid hA; have HAN := Lib.hid hAn
  clear hA hAn
  go_enter_defers Try.func22, Try.ntmps22
  go_wp2_with fail
  refine HNW.out.mono ?_
  rintro e w1 (⟨hm, g, rfl, hd, hb⟩ | ⟨hm, rfl, rfl⟩)
  case' inr =>
    have HM := Lib.hid hm
    clear hm
    go_wp2_with fail
    simp [bodyPostD, Leaves, results, Try.results22, go_sem]
    exact ⟨Below.refl _ _, Or.inl ⟨HM.out, rfl⟩⟩
  case' inl =>
    have HM := Lib.hid hm; have HD := Lib.hid hd; have HB := Lib.hid hb
    have HA1 := Lib.hid (HA.out.below hb (Nat.le_refl _))
    have HF := Lib.hid (feed_any hd A l l.length c rfl HA1.out HAN.out (by simp) (by omega))
    clear hm hd hb
    go_wp2_with fail
    refine HF.out.mono ?_
    rintro e w2 ⟨rfl, hd2, ho⟩
    have HB2 := Lib.hid (HB.out.trans (ho.below (fun _ hf => hf) HB.out.size))
    have hd3 : Dec (fun j => w.heap.size ≤ j ∧ j < w2.heap.size) w2 g m ⟨l, false⟩ := hd2.mono fun j hj hf => ⟨by
      rcases hf with hf | hf
      · exact hf
      · have := HB.out.size; omega, hj⟩
    have HD2 := Lib.hid hd3
    have hz2 := HB2.out.size
    clear hd2 ho hd3
    go_wp2_with fail
    go_loopw [4, 5] (fun u v wr => ∃ (s : St) (done : List Got) (FA : Option Addr) (fc : Nat) (EA : Option Addr) (ec : Nat) (fs : List Frm), u = .slice FA done.length fc ∧ v = .slice EA done.length ec ∧ Dec (fun j => w.heap.size ≤ j ∧ j < w2.heap.size) wr g m s ∧
      Outs w2.heap.size wr FA fc EA ec fs (done.map (·.2.2)) ∧ saysF fs done ∧ done ++ tailG m s [] = allG m l ∧ s.held.length ≤ l.length ∧ Below w.heap.size w wr ∧ w2.heap.size ≤ wr.heap.size) (fun u _ _ => (allG m l).length - lenV u)
    case atStart =>
      refine ⟨⟨l, false⟩, [], none, 0, none, 0, [], rfl, rfl, HD2.out, Outs.nil _ _, rfl, ?_, Nat.le_refl _, HB2.out, Nat.le_refl _⟩
      simp [tailG]
    case round =>
      obtain ⟨s, done, FA, fc, EA, ec, fs, rfl, rfl, hd, ho, hs, ha, hl1, hb, hz⟩ := hrel
      obtain ⟨⟨cd, p, er⟩, hG⟩ : ∃ x, nxG m s = x := ⟨_, rfl⟩
      have HG := Lib.hid hG
      have HOr := Lib.hid (orPanic_any HM.out hd (by omega))
      unfold orPost at HOr
      rw [hG] at HOr
      simp only at HOr
      have HO := Lib.hid ho; have HS := Lib.hid hs; have HAL := Lib.hid ha; have HBR := Lib.hid hb; have HZ := Lib.hid hz
      clear hd ho hs ha hb hG
      go_wp2_with fail
      refine HOr.out.mono ?_
      rintro e w3 ⟨hd3, ho3, (⟨h4, u, pv, rfl⟩ | ⟨hne, V, vc, rfl, hv⟩)⟩
      case' inl =>
        have HE : Hid (done = allG m l) := by
          show _ = _
          have := HAL.out
          rwa [tail_end s (by rw [HG.out]; exact h4), List.append_nil] at this
        have HO3 := Lib.hid (HO.out.only ho3 (fun j hj _ hf => by have := hf.2; omega))
        have HB3 : Hid (Below w.heap.size w w3) := HBR.out.trans (ho3.below (fun _ hf => hf.1) (by omega))
        clear hd3 ho3 h4
        go_wp2_with fail
        refine leaves_cons (f := 34) (args := #[]) (by simp) (by simp [go_sem]) ?_
        refine (catch_panicking u pv [] w3).mono ?_
        rintro e u' w'' ⟨rfl, rfl, rfl⟩
        simp [Leaves, settle, results, Try.results22, go_sem]
        refine ⟨HB3.out, Or.inr ⟨HM.out, FA, fc, EA, ec, fs, by rw [← HE.out], ?_, by rw [← HE.out]; exact HS.out⟩⟩
        rw [← HE.out]
        exact HO3.out.mono hz2
      case' inr =>
        have HE : Hid (tailG m s [] = (cd, p, er) :: tailG m (nxS m s) []) := by
          show _ = _
          have := tail_take HM.out s [] (by rw [HG.out]; exact hne.1) (by rw [HG.out]; exact hne.2)
          rwa [HG.out] at this
        have HD3 := Lib.hid hd3
        have HV3 := Lib.hid hv
        have HO3 := Lib.hid (HO.out.only ho3 (fun j hj _ hf => by have := hf.2; omega))
        have HB3 : Hid (Below w.heap.size w w3) := HBR.out.trans (ho3.below (fun _ hf => hf.1) (by omega))
        have hz3 : w2.heap.size ≤ w3.heap.size := Nat.le_trans hz ho3.size
        have hall : done.length + 1 ≤ (allG m l).length := by rw [← HAL.out, HE.out]; simp
        have hal := allG_len HM.out l
        have hfl := saysF_len HS.out
        have hnl := Nat.le_trans (nxS_len m s) hl1
        have HVB : Hid (∀ a, V = some a → w2.heap.size ≤ a.block ∧ a.block < w3.heap.size ∧ (∀ b, FA = some b → a.block ≠ b.block) ∧ ∀ b, EA = some b → a.block ≠ b.block) := fun a ha => by
          have h1 := HV3.out.base ha
          refine ⟨by omega, h1.2.1, fun b hb => ?_, fun b hb => ?_⟩
          · have := (HO.out.mf.base hb).2.1; omega
          · have := (HO.out.me.base hb).2.1; omega
        obtain ⟨w4, hw4⟩ : ∃ w4, w4 = w3.alloc (.cells #[.int .u8 (cd.toNat : Int), .slice V p.length vc] 39) := ⟨_, rfl⟩
        have hz4 : w4.heap.size = w3.heap.size + 1 := by rw [hw4]; simp
        have B4 : Below w3.heap.size w3 w4 := by rw [hw4]; exact below_new _ _
        have B5 : Hid (Below w3.heap.size w3 (w4.alloc (.cells #[.int .u8 (cd.toNat : Int), .slice V p.length vc] 39))) := B4.trans ((below_new w4 _).mono B4.size)
        have HO5 := Lib.hid (HO3.out.below B5.out (Nat.le_refl _))
        have HM5 := Lib.hid HO5.out.mf
        rw [hfl] at HM5
        have HV5 := Lib.hid ((rb_mine HV3.out).below B5.out (Nat.le_refl _))
        have HVB5 : Hid (∀ a, V = some a → w2.heap.size ≤ a.block ∧ a.block < (w4.alloc (.cells #[.int .u8 (cd.toNat : Int), .slice V p.length vc] 39)).heap.size ∧ (∀ b, FA = some b → a.block ≠ b.block) ∧ ∀ b, EA = some b → a.block ≠ b.block) := fun a ha => by
          obtain ⟨h1, h2, h3⟩ := HVB.out a ha
          exact ⟨h1, Nat.lt_of_lt_of_le h2 B5.out.size, h3⟩
        have HD5 := Lib.hid (HD3.out.below B5.out (Nat.le_refl _))
        clear hd3 ho3 hv hne B4
        go_wp2_with (at_builtin; (rw [← hw4]; refine wpList_mine rfl _ _ elmF _ rfl rfl HM5.out _ rfl 1 _ (src_nb hz4 #[.int .u8 (cd.toNat : Int), .slice V p.length vc] Try.underlying48 rfl (one_frame _ _ _ _)) (by omega) (by omega) (by simp; omega) ?_))
        intro A' c' w6 m1 g1 d1
        rw [← hw4] at g1
        have hz5 : (w4.alloc (.cells #[.int .u8 (cd.toNat : Int), .slice V p.length vc] 39)).heap.size = w3.heap.size + 1 + 1 := by simp; omega
        have HO6 := Lib.hid (HO5.out.pushF' hfl hz5 cd V p vc HV5.out HVB5.out m1 g1 d1)
        have O6 : Only (fun j => w2.heap.size ≤ j) w3 w6 := (Only.of_below B5.out (Nat.le_refl _) _).trans ((Only.of_grown g1 (F := fun j => w2.heap.size ≤ j) (fun k e => by
          rw [Option.map_eq_some_iff] at e
          obtain ⟨a, ha, e⟩ := e
          rw [← e]; exact (HM5.out.base ha).1)).mono (fun _ _ hf => Or.inl hf))
        have HD6 := Lib.hid (HD3.out.only O6 (fun j hj hf => by have := hj.2; omega))
        have HB6 : Hid (Below w.heap.size w w6) := HB3.out.trans (O6.below (fun j hf => by omega) (by omega))
        have hz6 : w2.heap.size ≤ w6.heap.size := Nat.le_trans hz3 O6.size
        obtain ⟨es, hes⟩ : ∃ es, es = done.map (fun x => x.2.2) := ⟨_, rfl⟩
        rw [← hes] at HO6
        have hel : es.length = done.length := by rw [hes, List.length_map]
        have HES := Lib.hid hes
        have HM6 : Hid (Mine w2.heap.size 1 (w6.alloc (.cells #[.int .i64 (er : Int)] 26)) EA done.length ec (es.map errV)) := by
          have := (HO6.out.below (below_new w6 (.cells #[.int .i64 (er : Int)] 26)) (Nat.le_refl _)).me
          rw [hel] at this
          exact this
        have HO7 := Lib.hid (HO6.out.below (below_new w6 (.cells #[.int .i64 (er : Int)] 26)) (Nat.le_refl _))
        clear hes m1 g1 d1 hw4 O6 HO5 HM5 HV5 HVB5 HD5 B5 hz5 hz4
        go_wp2_with (at_builtin; (refine wpList_mine rfl _ _ elmE _ rfl rfl HM6.out _ rfl 1 _ (src_lit #[.int .i64 (er : Int)] Try.underlying49 rfl (one_cell _ _)) (by omega) (by omega) (by simp; omega) ?_))
        intro E' e' w7 m2 g2 d2
        have HO8 := Lib.hid (HO7.out.pushE' (n := done.length) (nb := w6.heap.size + 1) hel (by simp) er m2 g2 d2)
        have O7 : Only (fun j => w2.heap.size ≤ j) w6 w7 := (Only.of_below (below_new w6 _) (Nat.le_refl _) _).trans ((Only.of_grown g2 (F := fun j => w2.heap.size ≤ j) (fun k e => by
          rw [Option.map_eq_some_iff] at e
          obtain ⟨a, ha, e⟩ := e
          rw [← e]; exact (HM6.out.base ha).1)).mono (fun _ _ hf => Or.inl hf))
        have HD7 := Lib.hid (HD6.out.only O7 (fun j hj hf => by have := hj.2; omega))
        have HB7 : Hid (Below w.heap.size w w7) := HB6.out.trans (O7.below (fun j hf => by omega) (by omega))
        have hz7 : w2.heap.size ≤ w7.heap.size := Nat.le_trans hz6 O7.size
        clear m2 g2 d2 O7
        go_wp2_with fail
        go_roundw
        case rel =>
          refine ⟨nxS m s, done ++ [(cd, p, er)], A', c', E', e', fs ++ [⟨cd, V, vc, p⟩], by rw [List.length_append]; rfl, by rw [List.length_append]; rfl, HD7.out, ?_, saysF_snoc HS.out _ _ ⟨rfl, rfl⟩, ?_, hnl, HB7.out, hz7⟩
          · rw [List.map_append, ← HES.out]; exact HO8.out
          · rw [List.append_assoc, List.singleton_append, ← HE.out]; exact HAL.out
        case measure =>
          simp only [lenV]; omega
end Go.Proofs.Ytmphielkohnpgaa.Da
