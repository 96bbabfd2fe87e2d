/- Proves that VarintReads returns true at every argument. Conditions: as the row gives them. -/
import Derived.Test.YtngeocacbegjkaaVq
namespace Go.Proofs.Ytngeocacbegjkaa.Vv
open Go.RowKit Vm Ap Vw Va Vab Vr Vrb Vg Vgr Vc Vp Vpr Vn Vs Vh Vk Vl Vq

/-- The slice at A reads as the calls l. -/
def Ra (w : World) (A : Option Addr) (l : List (Int × Int)) : Prop :=
  0 < l.length → ∃ b o, A = some ⟨b, o, none⟩ ∧ b < w.heap.size ∧ ∀ j (h : j < l.length), w.cell? ⟨b, o + j * 2, none⟩ = some (.int .i64 l[j].1) ∧ w.cell? ⟨b, o + j * 2 + 1, none⟩ = some (.int .i64 l[j].2)
theorem Ra.below {w w' : World} {A : Option Addr} {l : List (Int × Int)} (h : Ra w A l) {B : Nat} (hb : Below B w w') (hB : w.heap.size ≤ B) : Ra w' A l := fun h0 => by
  obtain ⟨b, o, e, hlt, hc⟩ := h h0
  exact ⟨b, o, e, Nat.lt_of_lt_of_le hlt hb.size, fun j hj => by rw [hb.cell (by show b < B; omega), hb.cell (by show b < B; omega)]; exact hc j hj⟩
/-- What an argument of calls gives. -/
structure Acts (W : World) (A : Option Addr) (l : List (Int × Int)) (c : Nat) : Prop where
  rd : Ra W A l
  le : l.length ≤ c
  max : c ≤ maxLen
  one : ∀ x ∈ l, (-9223372036854775808 ≤ x.1 ∧ x.1 ≤ 9223372036854775807) ∧ (-9223372036854775808 ≤ x.2 ∧ x.2 ≤ 9223372036854775807)

set_option maxRecDepth 100000 in
set_option maxHeartbeats 8000000 in
theorem reads_main (A D : Option Addr) (l : Bs) (c : Nat) (acts : List (Int × Int)) (d : Nat) (W : World) (ha : Arg W A l c) (hb : Acts W D acts d) (hl : l.length ≤ 300) (hal : acts.length ≤ 60) :
    Calls Try.prog 6 #[.slice A l.length c, .slice D acts.length d] W (boolBelow W) := by
  have HK := known_hid
  have HA := Lib.hid ha.rd
  have HN := Lib.hid ha.non
  have hlc := ha.le
  have HD := Lib.hid hb.rd
  have HONE := Lib.hid hb.one
  have h1 : (l.length : Int) ≤ 300 := by omega
  have h2 : (acts.length : Int) ≤ 60 := by omega
  have hcm := ha.max
  have hdm := hb.max
  have hdl := hb.le
  unfold maxLen at hcm hdm
  clear ha hb
  have HON := Lib.hid (own_nil W.heap.size W)
  go_enter Try.func6, Try.ntmps6
  go_wp2_with (at_builtin; (refine wpList_from rfl _ _ rfl rfl HON.out l A c rfl HN.out HA.out (by simp) (by omega) (Nat.le_refl _) ?_))
  intro v1 w1 hown g1
  have hb1 := below_of_grown g1 (Nat.le_refl W.heap.size) (by intro k e; cases e)
  have hform := own_form hown
  have HO1 := Lib.hid hown
  have HB1 := Lib.hid hb1
  clear g1 hown hb1
  rcases hform with ⟨rfl, hl0⟩ | ⟨go, cap, rfl, hBg, hgl, hcap⟩
  · have HL0 := Lib.hid hl0
    have HNEW : Hid (Calls Try.prog 20 #[.slice none 0 0] w1 (newPost w1 l)) := by
      show Calls _ _ _ _ _
      rw [hl0]; exact new_any none [] 0 w1 (Rb.nil _ _) (by simp)
    clear hl0
    go_wp2_with fail
    refine HNEW.out.mono ?_
    rintro e w2 ⟨g, rfl, hr, hb⟩
    have RD := Lib.hid hr
    have hgg := Rdr.ge hr
    have HB2 := Lib.hid (step0 HB1.out hb)
    have hz1 := HB1.out.size
    clear hr hb HNEW
    go_wp2_with fail
    go_loopw [37] (fun i wr => i = .int .i64 0 ∧ w2 = wr) (fun _ _ => 0)
    case atStart => exact ⟨rfl, rfl⟩
    case round =>
      obtain ⟨rfl, rfl⟩ := hrel
      have RD3 := Lib.hid RD.out
      have HB3 := Lib.hid HB2.out
      go_wp2_with fail
      go_loopw [8, 50] (fun rest i wr => ∃ (k : Nat) (q : Bs) (R : Option Addr) (rc : Nat), k ≤ acts.length ∧ i = .int .i64 (k : Int) ∧ rest = .slice R q.length rc ∧ q.length ≤ 300 ∧ q.length ≤ rc ∧ rc ≤ 9223372036854775807 ∧ (R = none → rc = 0) ∧ Rb W R q ∧ Rdr w1.heap.size wr g q ∧ Below W.heap.size W wr) (fun _ i _ => acts.length - (intOf i).toNat)
      case atStart => exact ⟨0, l, A, c, Nat.zero_le _, rfl, rfl, by omega, hlc, by omega, HN.out, HA.out, RD3.out, HB3.out⟩
      case round =>
        obtain ⟨j, q, R, rc, hj, rfl, rfl, hq3, hqc, hrc, hRn, hRq, hRd, hbw⟩ := hrel
        have HRN := Lib.hid hRn
        have HRQ := Lib.hid hRq
        have HRD := Lib.hid hRd
        have HBW := Lib.hid hbw
        clear hRn hRq hRd
        by_cases hjl : j < acts.length
        · obtain ⟨b, o, rfl, hbl, hcells⟩ := HD.out (by omega)
          obtain ⟨c0, c1⟩ := hcells j hjl
          obtain ⟨⟨w00, w01⟩, ⟨w10, w11⟩⟩ := HONE.out _ (List.getElem_mem hjl)
          rw [← hbw.cell (p := ⟨b, o + j * 2, none⟩) hbl] at c0
          rw [← hbw.cell (p := ⟨b, o + j * 2 + 1, none⟩) hbl] at c1
          obtain ⟨act, hact⟩ : ∃ act, act = acts[j] := ⟨_, rfl⟩
          rw [← hact] at c0 c1 w00 w01 w10 w11
          obtain ⟨what, most⟩ := act
          simp only at c0 c1 w00 w01 w10 w11
          have i1 : (j : Int) < acts.length := by omega
          clear hact hcells hbw
          obtain ⟨wa, hwa⟩ : ∃ wa, wa = wr.alloc (.cells #[.int .i64 what, .int .i64 most] 46) := ⟨_, rfl⟩
          have HBa : Hid (Below W.heap.size W wa) := by rw [hwa]; exact HBW.out.alloc HBW.out.size _
          have RDa : Hid (Rdr w1.heap.size wa g q) := by rw [hwa]; exact HRD.out.below ((Below.refl _ _).alloc (Nat.le_refl _) _) (Nat.le_refl _)
          have RQa := Lib.hid (HRQ.out.below HBa.out (Nat.le_refl _))
          have hgW : W.heap.size ≤ g := by omega
          by_cases h0 : what = 0
          · have e0 : (what == 0) = true := by rw [h0]; rfl
            have HRR : Hid (getR q = .tuple #[.int .u64 (getN q : Int), .int .i64 (getS q : Int), .int .i64 (getE q : Int)]) := rfl
            have HG : Hid (∀ w, Rb w R q → Calls Try.prog 15 #[.slice R q.length rc] w (getPost w q)) := fun w h => rget_any R q rc w h (by omega)
            have HT : Hid (∀ w, Rdr w1.heap.size w g q → Calls Try.prog 21 #[.pointer (some ⟨g, 0, none⟩), .int .u64 (getN q : Int), .int .i64 (getE q : Int)] w (boolTook w1.heap.size w g (q.drop (getS q)))) :=
              fun w h => number_true _ w g q _ _ _ h (by omega) rfl rfl rfl
            have hs := (get_lt q).2.1
            clear h0
            generalize getN q = n at *
            generalize getS q = s at *
            generalize getE q = e0' at *
            go_wp2_with fail
            rw [← hwa]
            clear hwa
            refine (HG.out _ RQa.out).mono ?_
            rintro e w' ⟨rfl, rfl⟩
            rw [HRR.out]
            go_wp2_with fail
            refine (HT.out _ RDa.out).mono ?_
            rintro e w6 ⟨rfl, hr, hg⟩
            have RD6 := Lib.hid hr
            have HB6 := Lib.hid (stepRd HBa.out hgW hg)
            clear hr hg HG HT HRR RQa RDa HBa
            have hs3 : s ≤ q.length := hs
            by_cases hcs : rc = s
            · subst hcs
              have hd0 : (q.drop rc).length = 0 := by rw [List.length_drop]; omega
              have HLF : Hid (Calls Try.prog 24 #[.pointer (some ⟨g, 0, none⟩)] w6 fun e w' => e = .returned (.int .i64 0) ∧ w6 = w') := by
                have := left_any _ w6 g _ RD6.out
                rw [hd0] at this; exact this
              have HD0 := Lib.hid hd0
              have hle : q.length ≤ rc := hqc
              clear hd0
              go_wp2_with fail
              refine HLF.out.mono ?_
              rintro e w' ⟨rfl, rfl⟩
              go_wp2_with fail
              go_roundw
              case rel => exact ⟨j + 1, q.drop rc, R, 0, by omega, by go_num, by rw [HD0.out], by rw [HD0.out]; omega, by rw [HD0.out]; omega, by omega, fun _ => rfl, by have := HRQ.out.cut rc rc hqc; rwa [cutA, if_pos rfl] at this, RD6.out, HB6.out⟩
              case measure => simp [intOf]; omega
            · obtain ⟨ra, rfl⟩ : ∃ ra, R = some ra := by
                cases R with
                | none => have := HRN.out rfl; omega
                | some ra => exact ⟨ra, rfl⟩
              have HLF : Hid (Calls Try.prog 24 #[.pointer (some ⟨g, 0, none⟩)] w6 fun e w' => e = .returned (.int .i64 ((q.length - s : Nat) : Int)) ∧ w6 = w') := by
                have := left_any _ w6 g _ RD6.out
                rw [List.length_drop] at this; exact this
              have HCUT : Hid (Rb W (some (ra.add s)) (q.drop s)) := by
                have := HRQ.out.cut s rc hqc
                rw [cutA, if_neg hcs, Option.map_some] at this
                exact this
              go_wp2_with fail
              refine HLF.out.mono ?_
              rintro e w' ⟨rfl, rfl⟩
              go_wp2_with fail
              go_roundw
              case rel => exact ⟨j + 1, q.drop s, some (ra.add s), rc - s, by omega, by go_num, by rw [List.length_drop], by rw [List.length_drop]; omega, by rw [List.length_drop]; omega, by omega, (fun e => by cases e), HCUT.out, RD6.out, HB6.out⟩
              case measure => simp [intOf]; omega
          · by_cases h1 : what = 1
            · have e0 : (what == 0) = false := by rw [h1]; rfl
              have e1 : (what == 1) = true := by rw [h1]; rfl
              have HT : Hid (∀ w, Rdr w1.heap.size w g q → Calls Try.prog 22 #[.pointer (some ⟨g, 0, none⟩), .int .u8 ((oneV q).1 : Int), .int .i64 ((oneV q).2.2 : Int)] w (boolTook w1.heap.size w g (q.drop (oneV q).2.1))) :=
                fun w h => one_true _ w g q _ _ _ h (by omega) rfl rfl rfl
              clear h1 h0
              by_cases hq0 : 0 < q.length
              · obtain ⟨rb, ro, hR, _, hc9⟩ := RQa.out.at_ hq0
                subst hR
                rw [Nat.add_zero] at hc9
                have hone : (oneV q).1 = q[0].toNat ∧ (oneV q).2.1 = 1 ∧ (oneV q).2.2 = 0 := by
                  cases q with
                  | nil => simp at hq0
                  | cons x r => exact ⟨rfl, rfl, rfl⟩
                rw [hone.1, hone.2.1, hone.2.2] at HT
                have i9 : (0 : Int) < (q.length : Int) := by omega
                have hb9 := q[0].toNat_lt
                rw [hwa] at hc9
                clear hone
                go_wp2_with fail
                rw [← hwa]
                clear hc9 hwa
                refine (HT.out _ RDa.out).mono ?_
                rintro e w6 ⟨rfl, hr, hg⟩
                have RD6 := Lib.hid hr
                have HB6 := Lib.hid (stepRd HBa.out hgW hg)
                clear hr hg HT RQa RDa HBa
                by_cases hcs : rc = 1
                · subst hcs
                  have hd0 : (q.drop 1).length = 0 := by rw [List.length_drop]; omega
                  have HLF : Hid (Calls Try.prog 24 #[.pointer (some ⟨g, 0, none⟩)] w6 fun e w' => e = .returned (.int .i64 0) ∧ w6 = w') := by
                    have := left_any _ w6 g _ RD6.out
                    rw [hd0] at this; exact this
                  have HD0 := Lib.hid hd0
                  have HCUT : Hid (Rb W (some ⟨rb, ro, none⟩) (q.drop 1)) := by
                    have := HRQ.out.cut 1 1 hqc
                    rwa [cutA, if_pos rfl] at this
                  have hq1 : (q.length : Int) ≤ 1 := by omega
                  have hq2 : q.length = 1 := by omega
                  clear hd0
                  go_wp2_with fail
                  refine HLF.out.mono ?_
                  rintro e w' ⟨rfl, rfl⟩
                  go_wp2_with fail
                  go_roundw
                  case rel => exact ⟨j + 1, q.drop 1, some ⟨rb, ro, none⟩, 0, by omega, by go_num, by rw [HD0.out], by rw [HD0.out]; omega, by rw [HD0.out]; omega, by omega, fun _ => rfl, HCUT.out, RD6.out, HB6.out⟩
                  case measure => simp [intOf]; omega
                · have HLF : Hid (Calls Try.prog 24 #[.pointer (some ⟨g, 0, none⟩)] w6 fun e w' => e = .returned (.int .i64 ((q.length - 1 : Nat) : Int)) ∧ w6 = w') := by
                    have := left_any _ w6 g _ RD6.out
                    rw [List.length_drop] at this; exact this
                  have HCUT : Hid (Rb W (some ⟨rb, ro + 1, none⟩) (q.drop 1)) := by
                    have := HRQ.out.cut 1 rc hqc
                    rw [cutA, if_neg hcs, Option.map_some, Vw.add_plain] at this
                    exact this
                  go_wp2_with fail
                  refine HLF.out.mono ?_
                  rintro e w' ⟨rfl, rfl⟩
                  go_wp2_with fail
                  go_roundw
                  case rel => exact ⟨j + 1, q.drop 1, some ⟨rb, ro + 1, none⟩, rc - 1, by omega, by go_num, by rw [List.length_drop], by rw [List.length_drop]; omega, by rw [List.length_drop]; omega, by omega, (fun e => by cases e), HCUT.out, RD6.out, HB6.out⟩
                  case measure => simp [intOf]; omega
              · have hqn : q = [] := List.eq_nil_of_length_eq_zero (by omega)
                subst hqn
                have hn9 : ¬ (0 : Int) < (([] : Bs).length : Int) := by simp
                go_wp2_with fail
                rw [← hwa]
                clear hwa
                refine (HT.out _ RDa.out).mono ?_
                rintro e w6 ⟨rfl, hr, hg⟩
                have RD6 : Hid (Rdr w1.heap.size w6 g []) := hr
                have HB6 := Lib.hid (stepRd HBa.out hgW hg)
                have HLF : Hid (Calls Try.prog 24 #[.pointer (some ⟨g, 0, none⟩)] w6 fun e w' => e = .returned (.int .i64 0) ∧ w6 = w') := left_any _ w6 g _ RD6.out
                clear hr hg HT RQa RDa HBa
                by_cases hcs : rc = 0
                · subst hcs
                  go_wp2_with fail
                  refine HLF.out.mono ?_
                  rintro e w' ⟨rfl, rfl⟩
                  go_wp2_with fail
                  go_roundw
                  case rel => exact ⟨j + 1, [], R, 0, by omega, by go_num, rfl, by simp, by simp, by omega, fun _ => rfl, HRQ.out, RD6.out, HB6.out⟩
                  case measure => simp [intOf]; omega
                · obtain ⟨ra, rfl⟩ : ∃ ra, R = some ra := by
                    cases R with
                    | none => have := HRN.out rfl; omega
                    | some ra => exact ⟨ra, rfl⟩
                  go_wp2_with fail
                  refine HLF.out.mono ?_
                  rintro e w' ⟨rfl, rfl⟩
                  go_wp2_with fail
                  go_roundw
                  case rel => exact ⟨j + 1, [], some (ra.add 0), rc - 0, by omega, by go_num, rfl, by simp, by simp, by omega, (fun e => by cases e), Rb.nil _ _, RD6.out, HB6.out⟩
                  case measure => simp [intOf]; omega
            · have e0 : (what == 0) = false := by rw [beq_eq_false_iff_ne]; exact h0
              have e1 : (what == 1) = false := by rw [beq_eq_false_iff_ne]; exact h1
              have HG : Hid (∀ w, Rb w R q → Calls Try.prog 17 #[.slice R q.length rc, .int .i64 most] w (partPost w q most)) := fun w h => rgetB_any R q rc most w h (by omega) hqc w10 w11
              have HT : Hid (∀ w, Rdr w1.heap.size w g q → Calls Try.prog 23 #[.pointer (some ⟨g, 0, none⟩), .int .i64 most, .string ⟨(partV q most).1.toArray⟩, .int .i64 ((partV q most).2.2 : Int)] w (boolTook w1.heap.size w g (q.drop (partV q most).2.1))) :=
                fun w h => bytes_true _ w g q _ _ most _ h (by omega) w10 w11 rfl rfl rfl
              have hs := (part_size q most).1
              have hca : wa.cell? ⟨wr.heap.size, 1, none⟩ = some (.int .i64 most) := by rw [hwa, cell_of_row _ _ 1 _ _ (0, 0) (heap_alloc_new _ _)]; rfl
              have hla := World.block_lt_of_cell? _ _ hca
              have HCA := Lib.hid hca
              unfold partPost at HG
              clear h0 h1 hca
              generalize (partV q most).1 = p at *
              generalize (partV q most).2.1 = s at *
              generalize (partV q most).2.2 = e0' at *
              go_wp2_with fail
              rw [← hwa]
              clear hwa
              refine (HG.out _ RQa.out).mono ?_
              rintro e w5 ⟨v5, rfl, hown, hb⟩
              obtain ⟨E, u, sh⟩ := own_shape hown
              obtain rfl := sh.val
              have hcv := conv_str u sh.rd
              have hcc : w5.cell? ⟨wr.heap.size, 1, none⟩ = some (.int .i64 most) := by rw [hb.cell (p := ⟨wr.heap.size, 1, none⟩) hla]; exact HCA.out
              have HB5 := Lib.hid (step0 HBa.out hb)
              have RD5 := Lib.hid (RDa.out.below hb (Nat.le_refl _))
              clear hown hb sh
              go_wp2_with fail
              refine (HT.out _ RD5.out).mono ?_
              rintro e w6 ⟨rfl, hr, hg⟩
              have RD6 := Lib.hid hr
              have HB6 := Lib.hid (stepRd HB5.out hgW hg)
              clear hr hg HG HT RQa RDa HBa hcv hcc HB5 RD5 HCA
              have hs3 : s ≤ q.length := hs
              by_cases hcs : rc = s
              · subst hcs
                have hd0 : (q.drop rc).length = 0 := by rw [List.length_drop]; omega
                have HLF : Hid (Calls Try.prog 24 #[.pointer (some ⟨g, 0, none⟩)] w6 fun e w' => e = .returned (.int .i64 0) ∧ w6 = w') := by
                  have := left_any _ w6 g _ RD6.out
                  rw [hd0] at this; exact this
                have HD0 := Lib.hid hd0
                have hle : q.length ≤ rc := hqc
                clear hd0
                go_wp2_with fail
                refine HLF.out.mono ?_
                rintro e w' ⟨rfl, rfl⟩
                go_wp2_with fail
                go_roundw
                case rel => exact ⟨j + 1, q.drop rc, R, 0, by omega, by go_num, by rw [HD0.out], by rw [HD0.out]; omega, by rw [HD0.out]; omega, by omega, fun _ => rfl, by have := HRQ.out.cut rc rc hqc; rwa [cutA, if_pos rfl] at this, RD6.out, HB6.out⟩
                case measure => simp [intOf]; omega
              · obtain ⟨ra, rfl⟩ : ∃ ra, R = some ra := by
                  cases R with
                  | none => have := HRN.out rfl; omega
                  | some ra => exact ⟨ra, rfl⟩
                have HLF : Hid (Calls Try.prog 24 #[.pointer (some ⟨g, 0, none⟩)] w6 fun e w' => e = .returned (.int .i64 ((q.length - s : Nat) : Int)) ∧ w6 = w') := by
                  have := left_any _ w6 g _ RD6.out
                  rw [List.length_drop] at this; exact this
                have HCUT : Hid (Rb W (some (ra.add s)) (q.drop s)) := by
                  have := HRQ.out.cut s rc hqc
                  rw [cutA, if_neg hcs, Option.map_some] at this
                  exact this
                go_wp2_with fail
                refine HLF.out.mono ?_
                rintro e w' ⟨rfl, rfl⟩
                go_wp2_with fail
                go_roundw
                case rel => exact ⟨j + 1, q.drop s, some (ra.add s), rc - s, by omega, by go_num, by rw [List.length_drop], by rw [List.length_drop]; omega, by rw [List.length_drop]; omega, by omega, (fun e => by cases e), HCUT.out, RD6.out, HB6.out⟩
                case measure => simp [intOf]; omega
        · obtain rfl : j = acts.length := by omega
          have hnn : ¬ (acts.length : Int) < acts.length := by omega
          clear hbw
          go_wp2_with fail
          refine (HK.out _).mono ?_
          rintro e w7 ⟨rfl, hb⟩
          have HB7 := Lib.hid (step0 HBW.out hb); clear hb
          go_wp2_with fail
          go_ret
          exact ⟨rfl, HB7.out⟩
  · have R1 := Lib.hid (Rb.of_own HO1.out)
    go_wp2_with fail
    refine (new_any (some ⟨go, 0, none⟩) l cap _ R1.out (by omega)).mono ?_
    rintro e w2 ⟨g, rfl, hr, hb⟩
    have RD := Lib.hid hr
    have hgg := Rdr.ge hr
    have HB2 := Lib.hid (step0 HB1.out hb)
    have HO2 := Lib.hid (own_below HO1.out hb (Nat.le_refl _))
    have hz1 := HB1.out.size
    clear hr hb
    go_wp2_with fail
    go_loopw [37] (fun i wr => ∃ (k : Nat) (m : Bs), k ≤ l.length ∧ i = .int .i64 (k : Int) ∧ m.length = l.length ∧ Own W.heap.size wr (.slice (some ⟨go, 0, none⟩) l.length cap) m ∧ w2.grownBy wr (some go)) (fun i _ => l.length - (intOf i).toNat)
    case atStart => exact ⟨0, l, Nat.zero_le _, rfl, rfl, HO2.out, World.grownBy.refl _ _⟩
    case round =>
      obtain ⟨k, m, hk, rfl, hml, hown, hgr⟩ := hrel
      have HM := Lib.hid hml
      have HO := Lib.hid hown
      have HGR := Lib.hid hgr
      by_cases hlt : k < l.length
      · have hkm : k < m.length := by omega
        obtain ⟨hc0, hf0⟩ := own_cell hml hown hkm
        have hx := m[k].toNat_lt
        have HS := Lib.hid (own_store hml hown k ((m[k].toNat + 1) % 256) (by omega))
        have i1 : (k : Int) < l.length := by omega
        clear hml hown hgr
        go_wp2_with fail
        go_roundw
        case rel => exact ⟨k + 1, _, by omega, by go_num, by rw [List.length_set]; exact HM.out, HS.out, grown_store HGR.out k _⟩
        case measure => simp [intOf]; omega
      · obtain rfl : k = l.length := by omega
        have hnn : ¬ (l.length : Int) < l.length := by omega
        have RD3 := Lib.hid (RD.out.grown hgr (fun j e => by injection e with e; omega))
        have HB3 := Lib.hid (HB2.out.grown hgr HB2.out.size (fun j e => by injection e with e; omega))
        clear hml hown hgr HM HO HGR HO2 hk
        clear m
        go_wp2_with fail
        go_loopw [8, 50] (fun rest i wr => ∃ (k : Nat) (q : Bs) (R : Option Addr) (rc : Nat), k ≤ acts.length ∧ i = .int .i64 (k : Int) ∧ rest = .slice R q.length rc ∧ q.length ≤ 300 ∧ q.length ≤ rc ∧ rc ≤ 9223372036854775807 ∧ (R = none → rc = 0) ∧ Rb W R q ∧ Rdr w1.heap.size wr g q ∧ Below W.heap.size W wr) (fun _ i _ => acts.length - (intOf i).toNat)
        case atStart => exact ⟨0, l, A, c, Nat.zero_le _, rfl, rfl, by omega, hlc, by omega, HN.out, HA.out, RD3.out, HB3.out⟩
        case round =>
          obtain ⟨j, q, R, rc, hj, rfl, rfl, hq3, hqc, hrc, hRn, hRq, hRd, hbw⟩ := hrel
          have HRN := Lib.hid hRn
          have HRQ := Lib.hid hRq
          have HRD := Lib.hid hRd
          have HBW := Lib.hid hbw
          clear hRn hRq hRd
          by_cases hjl : j < acts.length
          · obtain ⟨b, o, rfl, hbl, hcells⟩ := HD.out (by omega)
            obtain ⟨c0, c1⟩ := hcells j hjl
            obtain ⟨⟨w00, w01⟩, ⟨w10, w11⟩⟩ := HONE.out _ (List.getElem_mem hjl)
            rw [← hbw.cell (p := ⟨b, o + j * 2, none⟩) hbl] at c0
            rw [← hbw.cell (p := ⟨b, o + j * 2 + 1, none⟩) hbl] at c1
            obtain ⟨act, hact⟩ : ∃ act, act = acts[j] := ⟨_, rfl⟩
            rw [← hact] at c0 c1 w00 w01 w10 w11
            obtain ⟨what, most⟩ := act
            simp only at c0 c1 w00 w01 w10 w11
            have i1 : (j : Int) < acts.length := by omega
            clear hact hcells hbw
            obtain ⟨wa, hwa⟩ : ∃ wa, wa = wr.alloc (.cells #[.int .i64 what, .int .i64 most] 46) := ⟨_, rfl⟩
            have HBa : Hid (Below W.heap.size W wa) := by rw [hwa]; exact HBW.out.alloc HBW.out.size _
            have RDa : Hid (Rdr w1.heap.size wa g q) := by rw [hwa]; exact HRD.out.below ((Below.refl _ _).alloc (Nat.le_refl _) _) (Nat.le_refl _)
            have RQa := Lib.hid (HRQ.out.below HBa.out (Nat.le_refl _))
            have hgW : W.heap.size ≤ g := by omega
            by_cases h0 : what = 0
            · have e0 : (what == 0) = true := by rw [h0]; rfl
              have HRR : Hid (getR q = .tuple #[.int .u64 (getN q : Int), .int .i64 (getS q : Int), .int .i64 (getE q : Int)]) := rfl
              have HG : Hid (∀ w, Rb w R q → Calls Try.prog 15 #[.slice R q.length rc] w (getPost w q)) := fun w h => rget_any R q rc w h (by omega)
              have HT : Hid (∀ w, Rdr w1.heap.size w g q → Calls Try.prog 21 #[.pointer (some ⟨g, 0, none⟩), .int .u64 (getN q : Int), .int .i64 (getE q : Int)] w (boolTook w1.heap.size w g (q.drop (getS q)))) :=
                fun w h => number_true _ w g q _ _ _ h (by omega) rfl rfl rfl
              have hs := (get_lt q).2.1
              clear h0
              generalize getN q = n at *
              generalize getS q = s at *
              generalize getE q = e0' at *
              go_wp2_with fail
              rw [← hwa]
              clear hwa
              refine (HG.out _ RQa.out).mono ?_
              rintro e w' ⟨rfl, rfl⟩
              rw [HRR.out]
              go_wp2_with fail
              refine (HT.out _ RDa.out).mono ?_
              rintro e w6 ⟨rfl, hr, hg⟩
              have RD6 := Lib.hid hr
              have HB6 := Lib.hid (stepRd HBa.out hgW hg)
              clear hr hg HG HT HRR RQa RDa HBa
              have hs3 : s ≤ q.length := hs
              by_cases hcs : rc = s
              · subst hcs
                have hd0 : (q.drop rc).length = 0 := by rw [List.length_drop]; omega
                have HLF : Hid (Calls Try.prog 24 #[.pointer (some ⟨g, 0, none⟩)] w6 fun e w' => e = .returned (.int .i64 0) ∧ w6 = w') := by
                  have := left_any _ w6 g _ RD6.out
                  rw [hd0] at this; exact this
                have HD0 := Lib.hid hd0
                have hle : q.length ≤ rc := hqc
                clear hd0
                go_wp2_with fail
                refine HLF.out.mono ?_
                rintro e w' ⟨rfl, rfl⟩
                go_wp2_with fail
                go_roundw
                case rel => exact ⟨j + 1, q.drop rc, R, 0, by omega, by go_num, by rw [HD0.out], by rw [HD0.out]; omega, by rw [HD0.out]; omega, by omega, fun _ => rfl, by have := HRQ.out.cut rc rc hqc; rwa [cutA, if_pos rfl] at this, RD6.out, HB6.out⟩
                case measure => simp [intOf]; omega
              · obtain ⟨ra, rfl⟩ : ∃ ra, R = some ra := by
                  cases R with
                  | none => have := HRN.out rfl; omega
                  | some ra => exact ⟨ra, rfl⟩
                have HLF : Hid (Calls Try.prog 24 #[.pointer (some ⟨g, 0, none⟩)] w6 fun e w' => e = .returned (.int .i64 ((q.length - s : Nat) : Int)) ∧ w6 = w') := by
                  have := left_any _ w6 g _ RD6.out
                  rw [List.length_drop] at this; exact this
                have HCUT : Hid (Rb W (some (ra.add s)) (q.drop s)) := by
                  have := HRQ.out.cut s rc hqc
                  rw [cutA, if_neg hcs, Option.map_some] at this
                  exact this
                go_wp2_with fail
                refine HLF.out.mono ?_
                rintro e w' ⟨rfl, rfl⟩
                go_wp2_with fail
                go_roundw
                case rel => exact ⟨j + 1, q.drop s, some (ra.add s), rc - s, by omega, by go_num, by rw [List.length_drop], by rw [List.length_drop]; omega, by rw [List.length_drop]; omega, by omega, (fun e => by cases e), HCUT.out, RD6.out, HB6.out⟩
                case measure => simp [intOf]; omega
            · by_cases h1 : what = 1
              · have e0 : (what == 0) = false := by rw [h1]; rfl
                have e1 : (what == 1) = true := by rw [h1]; rfl
                have HT : Hid (∀ w, Rdr w1.heap.size w g q → Calls Try.prog 22 #[.pointer (some ⟨g, 0, none⟩), .int .u8 ((oneV q).1 : Int), .int .i64 ((oneV q).2.2 : Int)] w (boolTook w1.heap.size w g (q.drop (oneV q).2.1))) :=
                  fun w h => one_true _ w g q _ _ _ h (by omega) rfl rfl rfl
                clear h1 h0
                by_cases hq0 : 0 < q.length
                · obtain ⟨rb, ro, hR, _, hc9⟩ := RQa.out.at_ hq0
                  subst hR
                  rw [Nat.add_zero] at hc9
                  have hone : (oneV q).1 = q[0].toNat ∧ (oneV q).2.1 = 1 ∧ (oneV q).2.2 = 0 := by
                    cases q with
                    | nil => simp at hq0
                    | cons x r => exact ⟨rfl, rfl, rfl⟩
                  rw [hone.1, hone.2.1, hone.2.2] at HT
                  have i9 : (0 : Int) < (q.length : Int) := by omega
                  have hb9 := q[0].toNat_lt
                  rw [hwa] at hc9
                  clear hone
                  go_wp2_with fail
                  rw [← hwa]
                  clear hc9 hwa
                  refine (HT.out _ RDa.out).mono ?_
                  rintro e w6 ⟨rfl, hr, hg⟩
                  have RD6 := Lib.hid hr
                  have HB6 := Lib.hid (stepRd HBa.out hgW hg)
                  clear hr hg HT RQa RDa HBa
                  by_cases hcs : rc = 1
                  · subst hcs
                    have hd0 : (q.drop 1).length = 0 := by rw [List.length_drop]; omega
                    have HLF : Hid (Calls Try.prog 24 #[.pointer (some ⟨g, 0, none⟩)] w6 fun e w' => e = .returned (.int .i64 0) ∧ w6 = w') := by
                      have := left_any _ w6 g _ RD6.out
                      rw [hd0] at this; exact this
                    have HD0 := Lib.hid hd0
                    have HCUT : Hid (Rb W (some ⟨rb, ro, none⟩) (q.drop 1)) := by
                      have := HRQ.out.cut 1 1 hqc
                      rwa [cutA, if_pos rfl] at this
                    have hq1 : (q.length : Int) ≤ 1 := by omega
                    have hq2 : q.length = 1 := by omega
                    clear hd0
                    go_wp2_with fail
                    refine HLF.out.mono ?_
                    rintro e w' ⟨rfl, rfl⟩
                    go_wp2_with fail
                    go_roundw
                    case rel => exact ⟨j + 1, q.drop 1, some ⟨rb, ro, none⟩, 0, by omega, by go_num, by rw [HD0.out], by rw [HD0.out]; omega, by rw [HD0.out]; omega, by omega, fun _ => rfl, HCUT.out, RD6.out, HB6.out⟩
                    case measure => simp [intOf]; omega
                  · have HLF : Hid (Calls Try.prog 24 #[.pointer (some ⟨g, 0, none⟩)] w6 fun e w' => e = .returned (.int .i64 ((q.length - 1 : Nat) : Int)) ∧ w6 = w') := by
                      have := left_any _ w6 g _ RD6.out
                      rw [List.length_drop] at this; exact this
                    have HCUT : Hid (Rb W (some ⟨rb, ro + 1, none⟩) (q.drop 1)) := by
                      have := HRQ.out.cut 1 rc hqc
                      rw [cutA, if_neg hcs, Option.map_some, Vw.add_plain] at this
                      exact this
                    go_wp2_with fail
                    refine HLF.out.mono ?_
                    rintro e w' ⟨rfl, rfl⟩
                    go_wp2_with fail
                    go_roundw
                    case rel => exact ⟨j + 1, q.drop 1, some ⟨rb, ro + 1, none⟩, rc - 1, by omega, by go_num, by rw [List.length_drop], by rw [List.length_drop]; omega, by rw [List.length_drop]; omega, by omega, (fun e => by cases e), HCUT.out, RD6.out, HB6.out⟩
                    case measure => simp [intOf]; omega
                · have hqn : q = [] := List.eq_nil_of_length_eq_zero (by omega)
                  subst hqn
                  have hn9 : ¬ (0 : Int) < (([] : Bs).length : Int) := by simp
                  go_wp2_with fail
                  rw [← hwa]
                  clear hwa
                  refine (HT.out _ RDa.out).mono ?_
                  rintro e w6 ⟨rfl, hr, hg⟩
                  have RD6 : Hid (Rdr w1.heap.size w6 g []) := hr
                  have HB6 := Lib.hid (stepRd HBa.out hgW hg)
                  have HLF : Hid (Calls Try.prog 24 #[.pointer (some ⟨g, 0, none⟩)] w6 fun e w' => e = .returned (.int .i64 0) ∧ w6 = w') := left_any _ w6 g _ RD6.out
                  clear hr hg HT RQa RDa HBa
                  by_cases hcs : rc = 0
                  · subst hcs
                    go_wp2_with fail
                    refine HLF.out.mono ?_
                    rintro e w' ⟨rfl, rfl⟩
                    go_wp2_with fail
                    go_roundw
                    case rel => exact ⟨j + 1, [], R, 0, by omega, by go_num, rfl, by simp, by simp, by omega, fun _ => rfl, HRQ.out, RD6.out, HB6.out⟩
                    case measure => simp [intOf]; omega
                  · obtain ⟨ra, rfl⟩ : ∃ ra, R = some ra := by
                      cases R with
                      | none => have := HRN.out rfl; omega
                      | some ra => exact ⟨ra, rfl⟩
                    go_wp2_with fail
                    refine HLF.out.mono ?_
                    rintro e w' ⟨rfl, rfl⟩
                    go_wp2_with fail
                    go_roundw
                    case rel => exact ⟨j + 1, [], some (ra.add 0), rc - 0, by omega, by go_num, rfl, by simp, by simp, by omega, (fun e => by cases e), Rb.nil _ _, RD6.out, HB6.out⟩
                    case measure => simp [intOf]; omega
              · have e0 : (what == 0) = false := by rw [beq_eq_false_iff_ne]; exact h0
                have e1 : (what == 1) = false := by rw [beq_eq_false_iff_ne]; exact h1
                have HG : Hid (∀ w, Rb w R q → Calls Try.prog 17 #[.slice R q.length rc, .int .i64 most] w (partPost w q most)) := fun w h => rgetB_any R q rc most w h (by omega) hqc w10 w11
                have HT : Hid (∀ w, Rdr w1.heap.size w g q → Calls Try.prog 23 #[.pointer (some ⟨g, 0, none⟩), .int .i64 most, .string ⟨(partV q most).1.toArray⟩, .int .i64 ((partV q most).2.2 : Int)] w (boolTook w1.heap.size w g (q.drop (partV q most).2.1))) :=
                  fun w h => bytes_true _ w g q _ _ most _ h (by omega) w10 w11 rfl rfl rfl
                have hs := (part_size q most).1
                have hca : wa.cell? ⟨wr.heap.size, 1, none⟩ = some (.int .i64 most) := by rw [hwa, cell_of_row _ _ 1 _ _ (0, 0) (heap_alloc_new _ _)]; rfl
                have hla := World.block_lt_of_cell? _ _ hca
                have HCA := Lib.hid hca
                unfold partPost at HG
                clear h0 h1 hca
                generalize (partV q most).1 = p at *
                generalize (partV q most).2.1 = s at *
                generalize (partV q most).2.2 = e0' at *
                go_wp2_with fail
                rw [← hwa]
                clear hwa
                refine (HG.out _ RQa.out).mono ?_
                rintro e w5 ⟨v5, rfl, hown, hb⟩
                obtain ⟨E, u, sh⟩ := own_shape hown
                obtain rfl := sh.val
                have hcv := conv_str u sh.rd
                have hcc : w5.cell? ⟨wr.heap.size, 1, none⟩ = some (.int .i64 most) := by rw [hb.cell (p := ⟨wr.heap.size, 1, none⟩) hla]; exact HCA.out
                have HB5 := Lib.hid (step0 HBa.out hb)
                have RD5 := Lib.hid (RDa.out.below hb (Nat.le_refl _))
                clear hown hb sh
                go_wp2_with fail
                refine (HT.out _ RD5.out).mono ?_
                rintro e w6 ⟨rfl, hr, hg⟩
                have RD6 := Lib.hid hr
                have HB6 := Lib.hid (stepRd HB5.out hgW hg)
                clear hr hg HG HT RQa RDa HBa hcv hcc HB5 RD5 HCA
                have hs3 : s ≤ q.length := hs
                by_cases hcs : rc = s
                · subst hcs
                  have hd0 : (q.drop rc).length = 0 := by rw [List.length_drop]; omega
                  have HLF : Hid (Calls Try.prog 24 #[.pointer (some ⟨g, 0, none⟩)] w6 fun e w' => e = .returned (.int .i64 0) ∧ w6 = w') := by
                    have := left_any _ w6 g _ RD6.out
                    rw [hd0] at this; exact this
                  have HD0 := Lib.hid hd0
                  have hle : q.length ≤ rc := hqc
                  clear hd0
                  go_wp2_with fail
                  refine HLF.out.mono ?_
                  rintro e w' ⟨rfl, rfl⟩
                  go_wp2_with fail
                  go_roundw
                  case rel => exact ⟨j + 1, q.drop rc, R, 0, by omega, by go_num, by rw [HD0.out], by rw [HD0.out]; omega, by rw [HD0.out]; omega, by omega, fun _ => rfl, by have := HRQ.out.cut rc rc hqc; rwa [cutA, if_pos rfl] at this, RD6.out, HB6.out⟩
                  case measure => simp [intOf]; omega
                · obtain ⟨ra, rfl⟩ : ∃ ra, R = some ra := by
                    cases R with
                    | none => have := HRN.out rfl; omega
                    | some ra => exact ⟨ra, rfl⟩
                  have HLF : Hid (Calls Try.prog 24 #[.pointer (some ⟨g, 0, none⟩)] w6 fun e w' => e = .returned (.int .i64 ((q.length - s : Nat) : Int)) ∧ w6 = w') := by
                    have := left_any _ w6 g _ RD6.out
                    rw [List.length_drop] at this; exact this
                  have HCUT : Hid (Rb W (some (ra.add s)) (q.drop s)) := by
                    have := HRQ.out.cut s rc hqc
                    rw [cutA, if_neg hcs, Option.map_some] at this
                    exact this
                  go_wp2_with fail
                  refine HLF.out.mono ?_
                  rintro e w' ⟨rfl, rfl⟩
                  go_wp2_with fail
                  go_roundw
                  case rel => exact ⟨j + 1, q.drop s, some (ra.add s), rc - s, by omega, by go_num, by rw [List.length_drop], by rw [List.length_drop]; omega, by rw [List.length_drop]; omega, by omega, (fun e => by cases e), HCUT.out, RD6.out, HB6.out⟩
                  case measure => simp [intOf]; omega
          · obtain rfl : j = acts.length := by omega
            have hnn : ¬ (acts.length : Int) < acts.length := by omega
            clear hbw
            go_wp2_with fail
            refine (HK.out _).mono ?_
            rintro e w7 ⟨rfl, hb⟩
            have HB7 := Lib.hid (step0 HBW.out hb); clear hb
            go_wp2_with fail
            go_ret
            exact ⟨rfl, HB7.out⟩

set_option maxRecDepth 100000 in
set_option maxHeartbeats 1000000 in
theorem reads_walk (A D : Option Addr) (l : Bs) (c : Nat) (acts : List (Int × Int)) (d : Nat) (W : World) (ha : Arg W A l c) (hb : Acts W D acts d) :
    Calls Try.prog 6 #[.slice A l.length c, .slice D acts.length d] W (boolBelow W) := by
  have HK := known_hid
  have hl := Nat.le_trans ha.le ha.max
  have hp := Nat.le_trans hb.le hb.max
  unfold maxLen at hl hp
  have hc : (l.length ≤ 300 ∧ acts.length ≤ 60) ∨ 300 < l.length ∨ (l.length ≤ 300 ∧ 60 < acts.length) := by omega
  rcases hc with ⟨h1, h2⟩ | h1 | ⟨h1, h2⟩
  · exact reads_main A D l c acts d W ha hb h1 h2
  · have h1' : (300 : Int) < (l.length : Int) := by omega
    clear ha hb h1
    go_enter Try.func6, Try.ntmps6
    go_wp2_with fail
    refine (HK.out _).mono ?_
    rintro e w1 ⟨rfl, hb⟩
    go_wp2_with fail
    go_ret
    exact ⟨rfl, hb⟩
  · have h1' : (l.length : Int) ≤ 300 := by omega
    have h2' : (60 : Int) < (acts.length : Int) := by omega
    clear ha hb h1 h2
    go_enter Try.func6, Try.ntmps6
    go_wp2_with fail
    refine (HK.out _).mono ?_
    rintro e w1 ⟨rfl, hb⟩
    go_wp2_with fail
    go_ret
    exact ⟨rfl, hb⟩
end Go.Proofs.Ytngeocacbegjkaa.Vv
