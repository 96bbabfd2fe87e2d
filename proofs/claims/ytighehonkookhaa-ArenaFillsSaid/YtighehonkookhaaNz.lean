/- Proves that ArenaFills returns true at every argument. No condition. -/
import Derived.Test.YtighehonkookhaaNy
import Derived.Test.YtighehonkookhaaNs
import Derived.Deep.Cut
namespace Go.Proofs.Ytighehonkookhaa.Nz
open Go.RowKit Ap Mi Nm Nw Na Nb Rg Nc Nd Nx Nf Ng Nh Nj Nk Nl Np Nq Ns Ny

/-- The arena in block g, the law's counts in a row that may be written, and the order in a row that is read: apart from each other. -/
structure Fil (N : Nat) (w : World) (F : Nat → Prop) (g m G : Nat) (s : St) (A : Option Addr) (c : Nat) (L : List Nat) (O : Option Addr) (d : Nat) (R : List Nat) : Prop where
  are : Are F w g m G s
  gen : Mine N 1 w A m c (ints L)
  ord : Rs w 1 O R.length d (ints R)
  fl : ∀ j, F j → N ≤ j ∧ j < w.heap.size
  aF : ∀ a, A = some a → ¬ F a.block
  oF : ∀ a, O = some a → ¬ F a.block ∧ a.block < w.heap.size
  ao : ∀ a b, A = some a → O = some b → a.block ≠ b.block
section
variable {N : Nat} {w w' : World} {F H : Nat → Prop} {g m G : Nat} {s : St} {A O : Option Addr} {c d : Nat} {L R : List Nat}
theorem Fil.only (h : Fil N w F g m G s A c L O d R) (ho : Only H w w') (hF : ∀ j, H j → ¬ F j) (hA : ∀ a, A = some a → ¬ H a.block) (hO : ∀ a, O = some a → ¬ H a.block) : Fil N w' F g m G s A c L O d R :=
  have hz := ho.size
  ⟨h.are.only ho (fun j hf hh => hF j hh hf), h.gen.only ho hA, h.ord.only ho hO, fun j hf => ⟨(h.fl j hf).1, Nat.lt_of_lt_of_le (h.fl j hf).2 hz⟩, h.aF, fun a ha => ⟨(h.oF a ha).1, Nat.lt_of_lt_of_le (h.oF a ha).2 hz⟩, h.ao⟩
theorem Fil.below {B : Nat} (h : Fil N w F g m G s A c L O d R) (hb : Below B w w') (hB : w.heap.size ≤ B) : Fil N w' F g m G s A c L O d R :=
  h.only (Only.of_below hb hB (fun _ => False)) (fun _ hf => hf.elim) (fun _ _ hf => hf) (fun _ _ hf => hf)
/-- The arena has gone on. -/
theorem Fil.gone {G' : Nat} {s' : St} (h : Fil N w F g m G s A c L O d R) (hN : N ≤ w.heap.size) (ha : Are (More F w) w' g m G' s') (ho : Only F w w') : Fil N w' (fun j => More F w j ∧ j < w'.heap.size) g m G' s' A c L O d R :=
  have hz := ho.size
  ⟨ha.tight, h.gen.only ho h.aF, h.ord.only ho (fun a ha => (h.oF a ha).1), fun j hj => ⟨by rcases hj.1 with hf | hf; exact (h.fl j hf).1; omega, hj.2⟩,
    fun a ha hf => by rcases hf.1 with hf | hf; exact h.aF a ha hf; (have := (h.gen.base ha).2.1; omega),
    fun a ha => ⟨fun hf => by rcases hf.1 with hf | hf; exact (h.oF a ha).1 hf; (have := (h.oF a ha).2; omega), Nat.lt_of_lt_of_le (h.oF a ha).2 hz⟩, h.ao⟩
end
set_option maxRecDepth 100000 in
set_option maxHeartbeats 8000000 in
theorem fills_walk (n k st : Int) (W : World) : Calls Try.prog 4 #[.int .i64 n, .int .i64 k, .int .i64 st] W (boolTo true W) := by
  have HK := known_hid
  unfold boolTo at HK ⊢
  by_cases hno : n < 1 ∨ 60 < n ∨ k < 0 ∨ 5 < k ∨ st < 1 ∨ 1000 < st
  case pos =>
    by_cases h1 : n < 1
    case' neg =>
      have h1' : 1 ≤ n := by omega
      clear h1
      by_cases h2 : 60 < n
      case' neg =>
        have h2' : n ≤ 60 := by omega
        clear h2
        by_cases h3 : k < 0
        case' neg =>
          have h3' : 0 ≤ k := by omega
          clear h3
          by_cases h4 : 5 < k
          case' neg =>
            have h4' : k ≤ 5 := by omega
            clear h4
            by_cases h5 : st < 1
            case' neg =>
              have h5' : 1 ≤ st := by omega
              have h6 : 1000 < st := by omega
              clear h5
    all_goals
      clear hno
      go_enter Try.func4, Try.ntmps4
      go_wp2_with fail
      refine (HK.out _).mono ?_
      rintro e w1 ⟨rfl, hb⟩
      go_wp2_with fail
      go_ret
      exact ⟨rfl, hb⟩
  case neg =>
  obtain ⟨m, rfl⟩ : ∃ m : Nat, n = (m : Int) := ⟨n.toNat, by omega⟩
  obtain ⟨t, rfl⟩ : ∃ t : Nat, st = (t : Int) := ⟨st.toNat, by omega⟩
  obtain ⟨K, rfl⟩ : ∃ K : Nat, k = (K : Int) := ⟨k.toNat, by omega⟩
  have i1 : (1 : Int) ≤ (m : Int) := by omega
  have i2 : (m : Int) ≤ 60 := by omega
  have i3 : (K : Int) ≤ 5 := by omega
  have i4 : (1 : Int) ≤ (t : Int) := by omega
  have i5 : (t : Int) ≤ 1000 := by omega
  have HNW := Lib.hid (new_yes m W (by omega) (by omega))
  obtain ⟨N, hN⟩ : ∃ N, N = W.heap.size := ⟨_, rfl⟩
  have HN := Lib.hid hN
  rw [← hN] at HNW
  rw [← hN]
  clear hno hN
  go_enter Try.func4, Try.ntmps4
  go_wp2_with fail
  refine HNW.out.mono ?_
  rintro e w1 ⟨g, rfl, ha, hb⟩
  have HA := Lib.hid ha.tight; have HB1 := Lib.hid hb
  have hz1 : N ≤ w1.heap.size := by rw [HN.out]; exact hb.size
  clear ha hb HNW
  go_wp2_with fail
  go_loopw [9, 10] (fun v i wr => ∃ (j : Nat) (A : Option Addr) (c : Nat), j ≤ m ∧ i = .int .i64 (j : Int) ∧ v = .slice A j c ∧ Mine w1.heap.size 1 wr A j c (ints (List.range j)) ∧ Below w1.heap.size w1 wr) (fun _ i _ => m - (intOf i).toNat)
  case atStart => exact ⟨0, none, 0, Nat.zero_le _, rfl, rfl, Mine.nil _ _ _, Below.refl _ _⟩
  case round =>
    obtain ⟨j, A, c, hj, rfl, rfl, hm, hb⟩ := hrel
    have HM := Lib.hid hm; have HB := Lib.hid hb
    have hzr := hb.size
    clear hm hb
    by_cases hlt : j < m
    · have j1 : (j : Int) < (m : Int) := by omega
      go_wp2_with (at_builtin; (refine wpList_mine rfl _ _ elI _ rfl rfl (HM.out.below (bnew wr (.cells #[.int .i64 (j : Int)] 3)) (Nat.le_refl _)) _ rfl 1 _ (src_lit Try.underlying28 #[.int .i64 (j : Int)] 1 1 rfl (by simp [Value.oneCell'])) (by omega) (by omega) (by simp; omega) ?_))
      intro A' c' w5 m5 g5 q5
      have HB5 : Hid (Below w1.heap.size w1 w5) := (HB.out.trans ((bnew wr (.cells #[.int .i64 (j : Int)] 3)).mono hzr)).trans ((only_row (F := fun j => w1.heap.size ≤ j) g5 (fun a ha => (HM.out.base ha).1)).below (fun _ h => h) (by simp; omega))
      have HM5 := Lib.hid m5
      clear m5 g5 q5
      go_wp2_with fail
      go_roundw
      case rel => exact ⟨j + 1, A', c', by omega, by go_num, rfl, by rw [List.range_succ, ints_snoc]; exact HM5.out, HB5.out⟩
      case measure => simp [intOf]; omega
    · obtain rfl : m = j := by omega
      have hnn : ¬ (m : Int) < m := by omega
      obtain ⟨z0, hi1, hi2⟩ : ∃ i, Try.prog.info? 3 = some i ∧ (i.zero, i.size) = (some (.int .i64 0), 1) := by
        have := elI.info
        rw [Option.map_eq_some_iff] at this
        exact this
      simp only [Prod.mk.injEq] at hi2
      obtain ⟨hz, hsz⟩ := hi2
      have hb8 := elI.small z0 hi1
      have HI1 := Lib.hid hi1; have HZ := Lib.hid hz; have HSZ := Lib.hid hsz
      have hmul : z0.bytes * m ≤ 1024 * 60 := Nat.mul_le_mul hb8 (by omega)
      have hNr : N ≤ wr.heap.size := by omega
      clear hi1 hz hsz hb8 hlt hj
      go_wp2_with ((refine wpList_make_full _ rfl _ _ _ rfl N 3 z0 _ 1 elI.sl HI1.out HZ.out HSZ.out .i64 .i64 _ _ m rfl rfl rfl rfl (by omega) (by unfold maxLen; omega) hNr ?_))
      intro w2 o2 g2
      obtain ⟨A0, c0, e0, m0, _⟩ := Mine.of_own o2
      injection e0 with e0 _ e0'
      subst e0; subst e0'
      have hcel : (madeCells #[Value.int .i64 0] m).toList = ints (List.replicate m 0) := by
        unfold ints
        refine List.ext_getElem (by simp [madeCells]) (fun i h1 h2 => ?_)
        simp [madeCells, Nat.mod_one]
      rw [hcel] at m0
      obtain ⟨gG, hgG⟩ : ∃ gG, gG = wr.heap.size := ⟨_, rfl⟩
      rw [← hgG] at m0
      have b2 : Below wr.heap.size wr w2 := (Below.refl wr.heap.size wr).grown g2 (Nat.le_refl _) (fun k e => by cases e)
      have HB2 : Hid (Below N W w2) := HB1.out.trans ((HB.out.trans (b2.mono hzr)).mono hz1)
      have HF0 : Hid (Fil N w2 (fun j => N ≤ j ∧ j < w1.heap.size) g m 1 ⟨[], [], []⟩ (some ⟨gG, 0, none⟩) m (List.replicate m 0) A c (List.range m)) := by
        refine ⟨HA.out.below (HB.out.trans (b2.mono hzr)) (Nat.le_refl _), m0, ?_, fun j hj => ⟨hj.1, by have := b2.size; omega⟩, fun a ha hf => by injection ha with ha; subst ha; have := hf.2; simp only at this; omega,
          fun a ha => ⟨fun hf => by have := (HM.out.base ha).1; have := hf.2; omega, by have := (HM.out.base ha).2.1; have := b2.size; omega⟩, fun a b ha hb => by injection ha with ha; subst ha; have := (HM.out.base hb).2.1; simp only; omega⟩
        have := Rs.mine (HM.out.below b2 (Nat.le_refl _))
        rw [List.length_range]; exact this
      have HR0 : Hid (Ready m ⟨[], [], []⟩ (List.replicate m 0) (List.range m)) := by
        have := ready_first m m 0 (by omega)
        rw [← List.range_eq_range'] at this
        exact this
      have hz2 : N ≤ w2.heap.size := by have := b2.size; omega
      have HRG : Hid ((List.range m).length = m) := List.length_range
      obtain ⟨R0, hR0⟩ : ∃ R0, R0 = List.range m := ⟨_, rfl⟩
      have hRm : m = R0.length := by rw [hR0]; simp
      rw [← hR0] at HF0 HR0 HRG
      have HSL : Hid (Value.slice A m c = .slice A R0.length c) := by show _ = _; rw [← hRm]
      clear o2 g2 b2 m0 hcel hR0 hRm hmul
      go_upto_region 12 with (fail)
      rw [← hgG]
      clear hgG
      go_wp2_with fail
      go_loopw [9, 12] (fun v i wr => ∃ (r G : Nat) (F : Nat → Prop) (s : St) (L R : List Nat) (O : Option Addr) (d : Nat), r ≤ K ∧ i = .int .i64 (r : Int) ∧ v = .slice O R.length d ∧ Fil N wr F g m G s (some ⟨gG, 0, none⟩) m L O d R ∧ Hid (Ready m s L R) ∧ Hid (R.length = m) ∧ 1 ≤ G ∧ G ≤ 1 + 4000 * r ∧ Below N W wr ∧ N ≤ wr.heap.size) (fun _ i _ => K - (intOf i).toNat)
      case atStart => exact ⟨0, 1, _, _, _, R0, A, c, Nat.zero_le _, rfl, HSL.out, HF0.out, HR0, HRG, by omega, by omega, HB2.out, hz2⟩
      case round =>
        obtain ⟨r, G, F, s, L, R, O, d, hr, rfl, rfl, hfil, HRD, HRL, hG1, hGr, hbl, hNw⟩ := hrel
        have FI := Lib.hid hfil; have BL := Lib.hid hbl
        clear hfil hbl
        by_cases hrk : r < K
        · have j1 : (r : Int) < (K : Int) := by omega
          obtain ⟨wo, rfl⟩ : ∃ wo : World, wo = wr := ⟨_, rfl⟩
          have hRb : R.length ≤ 60 := by have := HRL.out; omega
          go_wp2_with fail
          go_loopw [69] (fun i wr => ∃ (j : Nat) (F : Nat → Prop) (s : St) (L : List Nat), j ≤ R.length ∧ i = .int .i64 (j : Int) ∧ Fil N wr F g m G s (some ⟨gG, 0, none⟩) m L O d R ∧ Hid (Ready m s L (R.drop j)) ∧ Below N W wr ∧ N ≤ wr.heap.size) (fun i _ => R.length - (intOf i).toNat)
          case atStart => exact ⟨0, F, s, L, Nat.zero_le _, rfl, FI.out, by show Ready m s L (R.drop 0); rw [List.drop_zero]; exact HRD.out, BL.out, hNw⟩
          case round =>
            clear FI HRD BL
            obtain ⟨j, F, s, L, hj, rfl, hfil, HRD, hbl, hNx⟩ := hrel
            have FI := Lib.hid hfil; have BL := Lib.hid hbl
            clear hfil hbl
            by_cases hjl : j < R.length
            · have j2 : (j : Int) < (R.length : Int) := by omega
              have hdr := HRD.out
              rw [List.drop_eq_getElem_cons hjl] at hdr
              obtain ⟨⟨hnl, hLm⟩, r1, r2, r3, r4⟩ := hdr
              obtain ⟨tb, to_, rfl, ltb, oc⟩ := FI.out.ord.rd.at_ (ints_get (List.getElem?_eq_getElem hjl))
              obtain ⟨n, hn⟩ : ∃ n, n = R[j] := ⟨_, rfl⟩
              rw [← hn] at hnl r1 r2 r4 oc
              have hge : (ints L)[n]? = some (.int .i64 ((L.getD n 0 : Nat) : Int)) := ints_get (by rw [List.getD_eq_getElem?_getD, List.getElem?_eq_getElem hnl]; rfl)
              obtain ⟨gc, gf⟩ := mine_cell FI.out.gen hge
              rw [Nat.zero_add] at gc gf
              have hgl := tkG_le FI.out.are.inv hG1
              rw [r2] at hgl
              obtain ⟨x, hx⟩ : ∃ x, x = L.getD n 0 := ⟨_, rfl⟩
              rw [← hx] at gc hgl r2 r4
              have hxb : x ≤ 100000 := by omega
              have lgG : gG < wr.heap.size := (FI.out.gen.base rfl).2.1
              have lNG : N ≤ gG := (FI.out.gen.base rfl).1
              have ntb : ¬ tb = gG := fun e => FI.out.ao _ _ rfl rfl e.symm
              have j3 : (n : Int) < (m : Int) := by omega
              have HX := Lib.hid hx
              have R1 := Lib.hid r1; have R2 := Lib.hid r2; have R3 := Lib.hid r3; have R4 := Lib.hid r4
              have HNL : Hid (n < L.length) := hnl
              clear hn hge hgl hx r1 r2 r3 r4 hnl hLm HRD
              obtain ⟨w3, hw3⟩ : ∃ w3, w3 = wr.setCell ⟨gG, n, none⟩ (.int .i64 ((x : Int) + 1)) := ⟨_, rfl⟩
              have O3 : Only (fun j => j = gG) wr w3 := by rw [hw3]; exact only_own (F := fun j => j = gG) rfl _
              have FI3 : Hid (Fil N w3 F g m G s (some ⟨gG, 0, none⟩) m (L.set n (x + 1)) (some ⟨tb, to_, none⟩) d R) := by
                refine ⟨FI.out.are.only O3 (fun j hf e => FI.out.aF _ rfl (by simp only; rw [← e]; exact hf)), ?_, FI.out.ord.only O3 (fun a ha e => FI.out.ao _ a rfl ha e.symm), fun j hf => ⟨(FI.out.fl j hf).1, Nat.lt_of_lt_of_le (FI.out.fl j hf).2 O3.size⟩, FI.out.aF, fun a ha => ⟨(FI.out.oF a ha).1, Nat.lt_of_lt_of_le (FI.out.oF a ha).2 O3.size⟩, FI.out.ao⟩
                have h1 := mine_put FI.out.gen n (.int .i64 ((x : Int) + 1)) (by rw [ints_len]; exact HNL.out) (show (ints L).set n (.int .i64 ((x : Int) + 1)) = ints (L.set n (x + 1)) by unfold ints; rw [List.map_set]; rfl)
                rw [Nat.zero_add] at h1
                rw [hw3]; exact h1
              have BL3 := Lib.hid (BL.out.trans (O3.below (B := N) (fun j e => by rw [e]; exact lNG) hNx))
              have hN3 : N ≤ w3.heap.size := Nat.le_trans hNx O3.size
              have gc3 : w3.cell? ⟨gG, n, none⟩ = some (.int .i64 ((x : Int) + 1)) := by rw [hw3]; exact World.cell?_setCell_same _ _ _ gc
              go_upto_region 19 with (fail)
              rw [← hw3]
              clear hw3 O3 gc gf oc
              have TK := Lib.hid (takes_true FI3.out.are hG1 (n : Int) ((x : Int) + 1) 0 R1.out (by rw [R2.out]; push_cast; rfl) R3.out)
              unfold tookPost at TK
              go_wp2_with fail
              refine TK.out.mono ?_
              rintro e w4 ⟨rfl, ha, ho⟩
              have FI4 := Lib.hid (FI3.out.gone hN3 ha ho)
              have BL4 := Lib.hid (BL3.out.trans (ho.below (B := N) (fun j hf => (FI3.out.fl j hf).1) hN3))
              have hN4 : N ≤ w4.heap.size := Nat.le_trans hN3 ho.size
              clear ha ho TK gc3
              go_wp2_with fail
              go_roundw
              case rel => exact ⟨j + 1, _, tkS m s, L.set n (x + 1), by omega, by go_num, FI4.out, R4, BL4.out, hN4⟩
              case measure => simp [intOf]; omega
            · obtain rfl : j = R.length := by omega
              have hnn3 : ¬ (R.length : Int) < R.length := by omega
              have hrd := HRD.out
              rw [List.drop_length] at hrd
              have PT := Lib.hid (part_start hrd)
              obtain ⟨hf1, hg1, hL1, ht1⟩ := hrd
              have hgl1 : s.gens.length = m := by rw [hg1]; exact hL1
              obtain ⟨q1, q2, q3, q4⟩ := tk_full hf1 hgl1
              have TK := Lib.hid (takes_true FI.out.are hG1 0 0 7 q2 q3 q4)
              unfold tookPost at TK
              rw [q1] at TK
              have HLN : Hid (((s.gens.length - s.fr.length : Nat) : Int) = (m : Int)) := by show _ = _; rw [hf1, hgl1]; simp
              have HGL : Hid ((s.gens.length : Int) = (m : Int)) := by show _ = _; rw [hgl1]
              clear hf1 hg1 hL1 ht1 hgl1 q1 q2 q3 q4 hjl hj HRD
              go_wp2_with fail
              refine TK.out.mono ?_
              rintro e w4 ⟨rfl, ha, ho⟩
              have FI4 := Lib.hid (FI.out.gone hNx ha ho)
              have BL4 := Lib.hid (BL.out.trans (ho.below (B := N) (fun j hf => (FI.out.fl j hf).1) hNx))
              have hN4 : N ≤ w4.heap.size := Nat.le_trans hNx ho.size
              clear ha ho TK
              go_wp2_with fail
              refine (klen FI4.out.are (m : Int) HLN.out).mono ?_
              rintro e w5 ⟨rfl, hb⟩
              have FI5 := Lib.hid (FI4.out.below hb (Nat.le_refl _))
              have BL5 := Lib.hid (BL4.out.trans (hb.mono hN4))
              have hN5 : N ≤ w5.heap.size := Nat.le_trans hN4 hb.size
              clear hb
              go_wp2_with fail
              refine (kmade FI5.out.are (m : Int) HGL.out).mono ?_
              rintro e w6 ⟨rfl, hb⟩
              have FI6 := Lib.hid (FI5.out.below hb (Nat.le_refl _))
              have BL6 := Lib.hid (BL5.out.trans (hb.mono hN5))
              have hN6 : N ≤ w6.heap.size := Nat.le_trans hN5 hb.size
              clear hb FI FI4 FI5 BL BL4 BL5
              go_wp2_with fail
              have hmm : m * m ≤ 60 * 60 := Nat.mul_le_mul (by omega) (by omega)
              have hm1 : 1 ≤ m := by omega
              have FI0 : Hid (Fil N w6 (fun j => More F wr j ∧ j < w4.heap.size) g m G s (some ⟨gG, 0, none⟩) m L none 0 []) :=
                ⟨FI6.out.are, FI6.out.gen, Rs.nil _ _, FI6.out.fl, FI6.out.aF, (fun a ha => by cases ha), (fun a b _ hb => by cases hb)⟩
              clear FI6
              go_loopw [9, 15] (fun v i wr => ∃ (z G' : Nat) (F : Nat → Prop) (s : St) (R : List Nat) (O : Option Addr) (d : Nat), i = .int .i64 (z : Int) ∧ v = .slice O R.length d ∧ Fil N wr F g m G' s (some ⟨gG, 0, none⟩) m L O d R ∧ Hid (Part m L R.reverse s) ∧ Hid (∀ q, q < m → q * m < z → q ∈ R) ∧ z ≤ m * m ∧ 1 ≤ G' ∧ G' ≤ G + z ∧ Below N W wr ∧ N ≤ wr.heap.size) (fun _ i _ => m * m - (intOf i).toNat)
              case atStart => exact ⟨0, G, _, s, [], none, 0, rfl, rfl, FI0.out, PT, fun q _ h => by omega, Nat.zero_le _, hG1, by omega, BL6.out, hN6⟩
              case round =>
                obtain ⟨z, G', F, s, R, O, d, rfl, rfl, hfil, HPT, HCV, hzm, hG1', hGz, hbl, hNy⟩ := hrel
                have FI := Lib.hid hfil; have BL := Lib.hid hbl
                clear hfil hbl
                by_cases hlt : R.length < m
                · have j5 : (R.length : Int) < (m : Int) := by omega
                  have hzlt : z < m * m := not_through HCV.out hlt
                  have hp1 : z * t ≤ 3600000 := Nat.le_trans (Nat.mul_le_mul (show z ≤ 3600 by omega) (show t ≤ 1000 by omega)) (by decide)
                  have hp2 : (z : Int) * (t : Int) ≤ 3600000 := by
                    have h1 := Int.ofNat_le.2 hp1
                    rw [Int.natCast_mul] at h1
                    omega
                  have hp3 : 0 ≤ (z : Int) * (t : Int) := Int.mul_nonneg (by omega) (by omega)
                  have hd1 : 0 ≤ (z : Int) / (m : Int) := Int.ediv_nonneg (by omega) (by omega)
                  have hd2 : (z : Int) / (m : Int) ≤ 3600 := Int.le_trans (Int.ediv_le_self _ (by omega)) (by omega)
                  have hnc := nxt_cast m t z
                  obtain ⟨n, hn⟩ : ∃ n, n = nxt m t z := ⟨_, rfl⟩
                  have hnm : n < m := by rw [hn]; exact nxt_lt hm1
                  rw [← hn] at hnc
                  have HNX := Lib.hid hn
                  have hLm := HPT.out.ll
                  have hge : (ints L)[n]? = some (.int .i64 ((L.getD n 0 : Nat) : Int)) := ints_get (by rw [List.getD_eq_getElem?_getD, List.getElem?_eq_getElem (by omega)]; rfl)
                  obtain ⟨gc, gf⟩ := mine_cell FI.out.gen hge
                  rw [Nat.zero_add] at gc gf
                  obtain ⟨x, hx⟩ : ∃ x, x = L.getD n 0 := ⟨_, rfl⟩
                  rw [← hx] at gc
                  have lgG : gG < wr.heap.size := (FI.out.gen.base rfl).2.1
                  have j6 : (n : Int) < (m : Int) := by omega
                  have FR := Lib.hid (free_any FI.out.are (by omega) (n : Int) (x : Int))
                  unfold freePost at FR
                  have HGE := Lib.hid gc
                  by_cases hmem : n ∈ R
                  · have hno := part_again HPT.out hnm (List.mem_reverse.2 hmem)
                    rw [← hx] at hno
                    obtain ⟨q1, q2⟩ := fr_no hno
                    rw [q1, q2] at FR
                    have HMB := Lib.hid hmem
                    clear hno q1 q2 hx hn hge hLm hmem hp1
                    go_wp2_with fail
                    refine FR.out.mono ?_
                    rintro e w7 ⟨rfl, ha, ho⟩
                    have FI7 := Lib.hid (FI.out.gone hNy ha ho)
                    have BL7 := Lib.hid (BL.out.trans (ho.below (B := N) (fun j hf => (FI.out.fl j hf).1) hNy))
                    have hN7 : N ≤ w7.heap.size := Nat.le_trans hNy ho.size
                    clear ha ho FR
                    go_wp2_with fail
                    go_roundw
                    case rel => exact ⟨z + 1, G' + 1, _, s, R, O, d, by go_num, rfl, FI7.out, HPT, fun q hq h => by
                        rcases Nat.lt_or_ge (q * m) z with h2 | h2
                        · exact HCV.out q hq h2
                        · have e : q * m = z := by omega
                          have := nxt_row (M := m) (st := t) hm1 hq
                          rw [e, ← HNX.out] at this
                          rw [← this]; exact HMB.out, by omega, by omega, by omega, BL7.out, hN7⟩
                    case measure => simp [intOf]; omega
                  · obtain ⟨hyes, hpt⟩ := part_step HPT.out hnm (fun h => hmem (List.mem_reverse.1 h))
                    rw [← hx] at hyes hpt
                    obtain ⟨s2, hs2⟩ : ∃ s2, s2 = frS s (n : Int) (x : Int) := ⟨_, rfl⟩
                    rw [← hs2] at hpt FR
                    rw [(fr_yes hyes).2] at FR
                    have HP2 := Lib.hid hpt
                    clear hyes hpt hs2 hx hn hge hLm hmem hp1
                    go_wp2_with fail
                    refine FR.out.mono ?_
                    rintro e w7 ⟨rfl, ha, ho⟩
                    have FI7 := Lib.hid (FI.out.gone hNy ha ho)
                    have BL7 := Lib.hid (BL.out.trans (ho.below (B := N) (fun j hf => (FI.out.fl j hf).1) hNy))
                    have hN7 : N ≤ w7.heap.size := Nat.le_trans hNy ho.size
                    have b8 := bnew w7 (.cells #[.int .i64 (n : Int)] 3)
                    have HSR := Lib.hid ((FI7.out.ord.below b8 (Nat.le_refl _)).src Try.underlying28 (by omega) (ints_one _))
                    have HLT := Lib.hid (mine_laid (sz := 1) w7 #[.int .i64 (n : Int)] [.int .i64 (n : Int)] 3 1 rfl rfl (by omega))
                    have hRb : R.length ≤ 60 := by omega
                    clear ha ho FR b8
                    go_wp2_with (at_builtin; (refine wpList_mine rfl _ _ elI _ rfl rfl HLT.out _ rfl R.length _ HSR.out (by omega) (by omega) (by simp) ?_))
                    intro A9 c9 w9 m9 g9 q9
                    have O9 : Only (fun _ => False) w7 w9 := by
                      have h1 : Only (fun j => j = w7.heap.size) (w7.alloc (.cells #[.int .i64 (n : Int)] 3)) w9 := Only.of_grown g9 (fun k e => by simp at e; exact e.symm)
                      exact (Only.of_below (bnew w7 (.cells #[.int .i64 (n : Int)] 3)) (Nat.le_refl _) _).trans (h1.mono fun j _ e => Or.inr (by omega))
                    have HA9 : Hid (∀ a, A9 = some a → w7.heap.size ≤ a.block ∧ a.block < w9.heap.size) := fun a ha => by
                      refine ⟨?_, (m9.base ha).2.1⟩
                      rcases q9 with h | h
                      · rw [h] at ha; injection ha with ha; subst ha; exact Nat.le_refl _
                      · have h2 : w7.heap.size + 1 ≤ a.block := by simpa using h a ha
                        omega
                    have M9 := Lib.hid m9
                    have FI8 := FI7.out.only O9 (fun _ hf => hf.elim) (fun _ _ hf => hf) (fun _ _ hf => hf)
                    have FI9 : Hid (Fil N w9 (fun j => More F wr j ∧ j < w7.heap.size) g m (G' + 1) s2 (some ⟨gG, 0, none⟩) m L A9 c9 (n :: R)) := by
                      refine ⟨FI8.are, FI8.gen, ?_, FI8.fl, FI8.aF, fun a ha => ⟨fun hf => by have := (HA9.out a ha).1; have := hf.2; omega, (HA9.out a ha).2⟩, fun a b ha hb => by injection ha with ha; subst ha; have := (HA9.out b hb).1; have := (FI7.out.gen.base rfl).2.1; simp only at this ⊢; omega⟩
                      have := Rs.mine M9.out
                      rw [List.length_cons, Nat.add_comm R.length 1]
                      exact this
                    have BL9 : Hid (Below N W w9) := BL7.out.trans (O9.below (B := N) (fun _ hf => hf.elim) hN7)
                    have hN9 : N ≤ w9.heap.size := Nat.le_trans hN7 O9.size
                    obtain ⟨R9, hR9⟩ : ∃ R9, R9 = n :: R := ⟨_, rfl⟩
                    have hln : 1 + R.length = R9.length := by rw [hR9, List.length_cons, Nat.add_comm]
                    have HR9 := Lib.hid hR9
                    rw [← hR9] at FI9
                    rw [hln]
                    clear m9 g9 q9 O9 FI8 hR9 hln
                    go_wp2_with fail
                    go_roundw
                    case rel => exact ⟨z + 1, G' + 1, _, s2, R9, A9, c9, by go_num, rfl, FI9.out, by show Part _ _ _ _; rw [HR9.out, List.reverse_cons]; exact HP2.out, fun q hq h => by
                        rw [HR9.out]
                        rcases Nat.lt_or_ge (q * m) z with h2 | h2
                        · exact List.mem_cons_of_mem _ (HCV.out q hq h2)
                        · have e : q * m = z := by omega
                          have := nxt_row (M := m) (st := t) hm1 hq
                          rw [e, ← HNX.out] at this
                          rw [← this]; exact List.mem_cons_self, by omega, by omega, by omega, BL9.out, hN9⟩
                    case measure => simp [intOf]; omega
                · have hfl := part_full HPT.out
                  rw [List.length_reverse] at hfl
                  have hRm2 : R.length = m := by omega
                  have j7 : ¬ (R.length : Int) < (m : Int) := by omega
                  have HRY := part_ready HPT.out
                  rw [List.reverse_reverse] at HRY
                  have HRYH := Lib.hid HRY
                  have HL0 : Hid (((s.gens.length - s.fr.length : Nat) : Int) = 0) := by
                    show _ = _
                    rw [HPT.out.gl, HPT.out.fr, List.length_reverse, hRm2]; simp
                  have HRM := Lib.hid hRm2
                  clear hRm2 hfl hlt HRY
                  go_wp2_with fail
                  refine (klen FI.out.are 0 HL0.out).mono ?_
                  rintro e w7 ⟨rfl, hb⟩
                  have FI7 := Lib.hid (FI.out.below hb (Nat.le_refl _))
                  have BL7 := Lib.hid (BL.out.trans (hb.mono hNy))
                  have hN7 : N ≤ w7.heap.size := Nat.le_trans hNy hb.size
                  clear hb
                  go_wp2_with fail
                  go_roundw
                  case rel => exact ⟨r + 1, G', _, s, L, R, O, d, by omega, by go_num, rfl, FI7.out, HRYH, HRM, hG1', by omega, BL7.out, hN7⟩
                  case measure => simp [intOf]; omega
        · obtain rfl : K = r := by omega
          have hnn2 : ¬ (K : Int) < K := by omega
          go_wp2_with fail
          refine (HK.out _).mono ?_
          rintro e v ⟨rfl, hbk⟩
          have HBK := Lib.hid hbk
          clear hbk
          go_wp2_with fail
          go_ret
          exact ⟨rfl, BL.out.trans (HBK.out.mono hNw)⟩
end Go.Proofs.Ytighehonkookhaa.Nz
