/- Proves what the specification's Sorted returns: the strings in the order of their bytes. Conditions: as each theorem names them. -/
import Derived.Test.YtmhbfplpodikiaaAb
import Derived.Deep.RegionHeld3
namespace Go.Proofs.Ytmhbfplpodikiaa.Ac
open Go.RowKit Ap Mi Nw Rg Aa Ab

def strs (l : List ByteArray) : List Value := l.map Value.string
theorem strs_len (v : List ByteArray) : (strs v).length = v.length := List.length_map _
theorem strs_one (v : List ByteArray) : ∀ u ∈ strs v, u.oneCell' = true := by intro u hu; obtain ⟨y, _, rfl⟩ := List.mem_map.1 hu; rfl
theorem strs_app (l m : List ByteArray) : strs (l ++ m) = strs l ++ strs m := List.map_append
theorem elS : Elm Try.prog 61 9 (.string ⟨#[]⟩) 1 where
  sl := Try.underlying61
  info := by kernel_rfl
  small := fun i h => by
    have h' : (Try.prog.info? 9).map (fun i => decide (i.bytes ≤ 1024)) = some true := by kernel_rfl
    rw [h] at h'; simpa using h'
  cells := rfl
  pos := by omega
theorem Rs_str {w : World} {A : Option Addr} {c : Nat} {l : List ByteArray} (h : Rs w 1 A l.length c (strs l)) {K : Nat} (hk : K < l.length) : ∃ b o, A = some ⟨b, o, none⟩ ∧ b < w.heap.size ∧ w.cell? ⟨b, o + K, none⟩ = some (.string l[K]) :=
  h.rd.at_ (by unfold strs; rw [List.getElem?_map, List.getElem?_eq_getElem hk]; rfl)
theorem rs_pre {w : World} {A : Option Addr} {n c : Nat} {xs : List Value} (h : Rs w 1 A n c xs) {k : Nat} (hk : k ≤ n) : Rs w 1 A k c (xs.take k) := by
  have hl := h.len
  refine ⟨fun h0 => ?_, by rw [List.length_take]; omega, Nat.le_trans hk h.le, h.max, h.non⟩
  rw [List.length_take] at h0
  obtain ⟨b, o, e, lb, hc⟩ := h.rd (by omega)
  exact ⟨b, o, e, lb, fun j hj => by rw [List.length_take] at hj; rw [List.getElem_take]; exact hc j (by omega)⟩
theorem rs_cut {w : World} {A : Option Addr} {n c : Nat} {xs : List Value} (h : Rs w 1 A n c xs) {k : Nat} (hk : k ≤ n) : Rs w 1 (cutM A 1 k c) (n - k) (c - k) (xs.drop k) := by
  have hle := h.le
  have hl := h.len
  refine ⟨fun h0 => ?_, by rw [List.length_drop, hl]; omega, by omega, by have := h.max; omega, fun e => ?_⟩
  · rw [List.length_drop] at h0
    obtain ⟨b, o, e, lb, hc⟩ := h.rd (by omega)
    subst e
    refine ⟨b, o + k, by unfold cutM; rw [if_neg (by omega)]; simp [Nw.add_lit], lb, fun j hj => ?_⟩
    rw [List.length_drop] at hj
    rw [List.getElem_drop, Nat.add_assoc]
    exact hc (k + j) (by omega)
  · unfold cutM at e
    split at e
    · omega
    · rw [Option.map_eq_none_iff] at e; rw [h.non e]; omega
theorem cut_q (q : Addr) (K c : Nat) : cutM (some q) 1 K c = if c = K then some q else some (q.add K) := by
  unfold cutM
  split
  · rfl
  · rw [Nat.mul_one]; rfl
theorem cut_lit (b o K c : Nat) : cutM (some ⟨b, o, none⟩) 1 K c = if c = K then some ⟨b, o, none⟩ else some ⟨b, o + K, none⟩ := by
  unfold cutM
  split
  · rfl
  · simp [Nw.add_lit]
theorem only_row {w w' : World} {A : Option Addr} {F : Nat → Prop} (h : w.grownBy w' (A.map (·.block))) (hA : ∀ a, A = some a → F a.block) : Only F w w' :=
  Only.of_grown h (fun k e => by
    cases A with
    | none => cases e
    | some a => simp at e; subst e; exact hA a rfl)
theorem fresh {w w' : World} (h : w.grownBy w' none) : Below w.heap.size w w' := (Below.refl _ w).grown h (Nat.le_refl _) (fun k e => by cases e)
theorem pre_src {w : World} {A : Option Addr} {c : Nat} {l : List ByteArray} (h : Rs w 1 A l.length c (strs l)) {k : Nat} (hk : k ≤ l.length) : Src Try.prog 1 61 (.slice A k c) k (strs (l.take k)) w := by
  have := (rs_pre h hk).src (P := Try.prog) Try.underlying61 (by omega) (fun u hu => strs_one l u (List.mem_of_mem_take hu))
  unfold strs at this ⊢
  rw [List.map_take]; exact this
theorem cut_src {w : World} {A : Option Addr} {c : Nat} {l : List ByteArray} (h : Rs w 1 A l.length c (strs l)) {k : Nat} (hk : k ≤ l.length) : Src Try.prog 1 61 (.slice (cutM A 1 k c) (l.length - k) (c - k)) (l.length - k) (strs (l.drop k)) w := by
  have := (rs_cut h hk).src (P := Try.prog) Try.underlying61 (by omega) (fun u hu => strs_one l u (List.mem_of_mem_drop hu))
  unfold strs at this ⊢
  rw [List.map_drop]; exact this
/-- What a call leaves that makes a row of strings. -/
def rowPost (w : World) (l : List ByteArray) : Ending → World → Prop := fun q w' => ∃ A c, q = .returned (.slice A l.length c) ∧ Mine w.heap.size 1 w' A l.length c (strs l) ∧ Below w.heap.size w w'
section
variable {A : Option Addr} {c : Nat} {l : List ByteArray} {w : World}
set_option maxRecDepth 100000 in
set_option maxHeartbeats 4000000 in
theorem sorted_any (hl : Rs w 1 A l.length c (strs l)) (hn : l.length ≤ 100000) :
    Calls Try.prog 46 #[.slice A l.length c] w (rowPost w (sortB l)) := by
  have hcm := Rs.max hl
  have hcl := Rs.le hl
  unfold maxLen at hcm
  have HL := Lib.hid hl
  have HGG : Hid (∀ K (h : K < l.length), sortB (l.take (K + 1)) = insB l[K] (sortB (l.take K))) := fun K h => by rw [List.take_succ_eq_append_getElem h, sortB_snoc]
  have HLN : Hid (∀ K, K ≤ l.length → (sortB (l.take K)).length = K) := fun K h => by rw [sortB_len, List.length_take]; omega
  have HEN : Hid (sortB (l.take l.length) = sortB l) := by show _ = _; rw [List.take_length]
  unfold rowPost
  clear hl
  go_enter Try.func46, Try.ntmps46
  go_wp2_with fail
  go_loopw [3, 4, 5, 6] (fun gn i _ _ wr => ∃ (K : Nat) (E : Option Addr) (f : Nat), K ≤ l.length ∧ i = .int .i64 (K : Int) ∧ gn = .slice E (sortB (l.take K)).length f ∧ Mine w.heap.size 1 wr E (sortB (l.take K)).length f (strs (sortB (l.take K))) ∧ Below w.heap.size w wr) (fun _ i _ _ _ => l.length - (intOf i).toNat)
  case atStart => exact ⟨0, none, 0, Nat.zero_le _, rfl, rfl, Mine.nil _ _ _, Below.refl _ _⟩
  case round =>
    obtain ⟨K, E, f, hK, rfl, rfl, hrw, hb⟩ := hrel
    have hg1 : (sortB (l.take K)).length ≤ 100000 := by have := HLN.out K hK; omega
    have HRW2 := Lib.hid hrw; have HB := Lib.hid hb
    have hf1 := hrw.le; have hf2 := hrw.max
    unfold maxLen at hf2
    have hzw : w.heap.size ≤ wr.heap.size := hb.size
    clear hrw hb
    by_cases hlt : K < l.length
    · have j1 : (K : Int) < (l.length : Int) := by omega
      have HG3 := Lib.hid (HGG.out K hlt)
      obtain ⟨bb, o, rfl, lb, a0⟩ := Rs_str (HL.out.below HB.out (Nat.le_refl _)) hlt
      obtain ⟨x, hx⟩ : ∃ x, x = l[K] := ⟨_, rfl⟩
      rw [← hx] at a0 HG3
      obtain ⟨gg, hgg⟩ : ∃ gg, gg = sortB (l.take K) := ⟨_, rfl⟩
      rw [← hgg] at HG3 HRW2 hg1 hf1 ⊢
      clear hx hgg
      have HRG : Hid (Rs wr 1 E gg.length f (strs gg)) := Rs.mine HRW2.out
      have hgn := hg1
      rcases E with _ | q
      · have hg0 : gg = [] := by
          have h1 := HRG.out.non rfl
          have h2 := Rs.le HRG.out
          exact List.eq_nil_of_length_eq_zero (by omega)
        have hf0 : f = 0 := HRG.out.non rfl
        subst hg0; subst hf0
        have HINN : Hid (insB x [] = [] ++ x :: []) := rfl
        go_wp2_with fail
        go_loopw [5] (fun s wi => s = .int .i64 0 ∧ ∃ n, wi = wr.drewN n) (fun _ _ => 0)
        case atStart => exact ⟨rfl, 0, rfl⟩
        case round =>
          obtain ⟨rfl, nq0, rfl⟩ := hrel
          have d0 : decide ((0 : Int) < 0) = false := by decide
          have d1 : decide (0 < 0) = false := by decide
          go_wp2_with fail
          go_quiet (fail)
          obtain ⟨vt, hvt⟩ : ∃ vt, vt = (wr.drewN nq0).drewN nq := ⟨_, rfl⟩
          have HBT : Hid (Below wr.heap.size wr vt) := by show Below _ _ _; rw [hvt]; exact below_drewN (below_drewN (Below.refl _ _) nq0) nq
          rw [← hvt]
          clear hvt
          have HGT := Lib.hid (HRG.out.below HBT.out (Nat.le_refl _))
          have HRWT := Lib.hid (HRW2.out.below HBT.out (Nat.le_refl _))
          have hzt := HBT.out.size
          have U0 : ∀ v, Below vt.heap.size vt v → v.cell? ⟨bb, o + K, none⟩ = some (.string x) := fun v hv => ((HBT.out.trans (hv.mono hzt)).cell lb).trans a0
          clear a0
          have D1 : Below vt.heap.size vt vt.drew := (Below.refl _ _).drew
          have SC : Hid (∀ v, Below vt.heap.size vt v → Src Try.prog 1 61 (.slice none 0 0) 0 (strs ([])) v) := fun v hv => by
            exact Src.ofNil _ Try.underlying61 0
          go_wp2_with fail
          refine wp_region_noPanic ?_
          refine wp_region_held_drew (S := fun v => Below vt.heap.size vt v) (by kernel_rfl) (D1) (fun hHeld => ?_)
          refine wpAnyH_take (i := 0) (oi := ⟨some 30, _, _, _, _, _⟩) (v := ?_) rfl (by kernel_rfl) (by kernel_rfl) (by kernel_rfl) (fun _ _ _ h => h) (Or.inl ⟨by rfl, ?_⟩) (by assumption) ?_
          rotate_left
          · intro w hSw; go_simp; first | done | with_reducible rfl
          try simp only [Act.put, List.setIfInBounds_toArray, List.set_cons_zero, List.set_cons_succ]
          refine wpAnyH_take (i := 1) (oi := ⟨some 31, _, _, _, _, _⟩) (v := ?_) rfl (by kernel_rfl) (by kernel_rfl) (by kernel_rfl) (fun _ _ _ h => h) (Or.inl ⟨by rfl, ?_⟩) (by assumption) ?_
          rotate_left
          · intro w hSw; go_simp; first | done | with_reducible rfl
          try simp only [Act.put, List.setIfInBounds_toArray, List.set_cons_zero, List.set_cons_succ]
          refine wpAnyH_take (i := 2) (oi := ⟨some 32, _, _, _, _, _⟩) (v := ?_) rfl (by kernel_rfl) (by kernel_rfl) (by kernel_rfl) (fun _ _ _ h => h) (Or.inl ⟨by rfl, ?_⟩) (by assumption) ?_
          rotate_left
          · intro w hSw; go_simp; first | done | with_reducible rfl
          try simp only [Act.put, List.setIfInBounds_toArray, List.set_cons_zero, List.set_cons_succ]
          refine wpAnyH_take (i := 3) (oi := ⟨some 33, _, _, _, _, _⟩) (v := ?_) rfl (by kernel_rfl) (by kernel_rfl) (by kernel_rfl) (fun _ _ _ h => h) (Or.inl ⟨by rfl, ?_⟩) (by assumption) ?_
          rotate_left
          · intro w hSw; go_simp; first | done | with_reducible rfl
          try simp only [Act.put, List.setIfInBounds_toArray, List.set_cons_zero, List.set_cons_succ]
          refine wpAnyH_take (i := 5) (oi := ⟨some 35, _, _, _, _, _⟩) (v := ?_) rfl (by kernel_rfl) (by kernel_rfl) (by kernel_rfl) (fun _ _ _ h => h) (Or.inl ⟨by rfl, ?_⟩) (by assumption) ?_
          rotate_left
          · intro w hSw; go_simp; first | done | with_reducible rfl
          try simp only [Act.put, List.setIfInBounds_toArray, List.set_cons_zero, List.set_cons_succ]
          refine wpAnyH_take (i := 6) (oi := ⟨some 36, _, _, _, _, _⟩) (v := ?_) rfl (by kernel_rfl) (by kernel_rfl) (by kernel_rfl) (fun _ _ _ h => h) (Or.inl ⟨by rfl, ?_⟩) (by assumption) ?_
          rotate_left
          · intro w hSw; go_simp; first | done | with_reducible rfl
          try simp only [Act.put, List.setIfInBounds_toArray, List.set_cons_zero, List.set_cons_succ]
          refine wpAnyH_take (i := 7) (oi := ⟨some 37, _, _, _, _, _⟩) (v := ?_) rfl (by kernel_rfl) (by kernel_rfl) (by kernel_rfl) (fun _ _ _ h => h) (Or.inl ⟨by rfl, ?_⟩) (by assumption) ?_
          rotate_left
          · intro w hSw; go_simp; first | done | with_reducible rfl
          try simp only [Act.put, List.setIfInBounds_toArray, List.set_cons_zero, List.set_cons_succ]
          refine wpAnyH_ready (rs := [4]) (by kernel_rfl) (by simp) ?_
          refine AllReadyH.cons (o := ⟨some 34, _, _, _, _, _⟩) rfl (fun K hK => ?_) AllReadyH.nil
          go_simp
          have KA : Below vt.heap.size vt (vt.drew.alloc (.cells #[.string x] 9)) := D1.trans ((bnew _ _).mono D1.size)
          refine hK.out _ _ (KA) (fun hHeld => ?_)
          clear hK K
          try simp only [Act.put, List.setIfInBounds_toArray, List.set_cons_zero, List.set_cons_succ]
          refine wpAnyH_ready (rs := [8]) (by kernel_rfl) (by simp) ?_
          refine AllReadyH.cons (o := ⟨some 38, _, _, _, _, _⟩) rfl (fun K hK => ?_) AllReadyH.nil
          have MA : Mine vt.heap.size 1 (vt.drew.alloc (.cells #[.string x] 9)) (some ⟨vt.heap.size, 0, none⟩) 1 1 [.string x] := Mine.lit vt.drew #[.string x] 9 1 rfl (by unfold maxLen; omega)
          refine step_mine (by kernel_rfl) _ _ elS _ rfl rfl MA _ rfl 0 _ (SC.out _ KA) (by omega) (by omega) KA.size ?_
          intro A5 c5 w5 m5 g5 q5
          have K5 : Below vt.heap.size vt w5 := KA.trans ((only_row (F := fun j => vt.heap.size ≤ j) g5 (fun a ha => (MA.base ha).1)).below (fun _ h => h) KA.size)
          have HL5 : Hid (1 + 0 = (x :: ([] : List ByteArray)).length) := by show _ = _; simp
          have M5 : Hid (Mine vt.heap.size 1 w5 A5 (x :: ([] : List ByteArray)).length c5 (strs (x :: ([] : List ByteArray)))) := by show Mine _ _ _ _ _ _ _; rw [← HL5.out]; exact m5
          rw [HL5.out]
          obtain ⟨rl, hrl⟩ : ∃ rl, rl = x :: ([] : List ByteArray) := ⟨_, rfl⟩
          have HRL2 := Lib.hid hrl
          rw [← hrl] at M5
          rw [← hrl]
          clear hrl m5 g5 q5 MA
          refine hK.out _ _ (K5) (fun hHeld => ?_)
          clear hK K
          try simp only [Act.put, List.setIfInBounds_toArray, List.set_cons_zero, List.set_cons_succ]
          refine wpAnyH_take (i := 9) (oi := ⟨some 6, _, _, _, _, _⟩) (v := ?_) rfl (by kernel_rfl) (by kernel_rfl) (by kernel_rfl) (fun _ _ _ h => h) (Or.inl ⟨by rfl, ?_⟩) (by assumption) ?_
          rotate_left
          · intro w hSw; go_simp; first | done | with_reducible rfl
          try simp only [Act.put, List.setIfInBounds_toArray, List.set_cons_zero, List.set_cons_succ]
          refine wpAnyH_done (by kernel_rfl) ?_ _
          refine NoPanic.normal ?_
          have HK5 := Lib.hid hHeld
          have HGT5 := Lib.hid (HGT.out.below hHeld (Nat.le_refl _))
          have hz5 := hHeld.size
          clear hHeld D1 U0
          have S13 := Lib.hid (pre_src HGT5.out (k := 0) (by simp))
          rw [List.take_nil] at S13
          have hrb : rl.length ≤ 100001 := by rw [HRL2.out]; simp
          go_upto_region 9 with fail
          go_wp2_with (at_builtin; (refine wpList_mine rfl _ _ elS _ rfl rfl (Mine.nil vt.heap.size 1 w5) _ rfl 0 _ S13.out (by omega) (by omega) hz5 ?_))
          intro A6 c6 w6 m6 g6 q6
          have B6 : Hid (Below w5.heap.size w5 w6) := fresh (by exact g6)
          have M6 : Hid (Mine vt.heap.size 1 w6 A6 0 c6 (strs ([]))) := by show Mine _ _ _ _ _ _ _; first | exact m6 | (rw [Nat.zero_add, List.nil_append] at m6; exact m6)
          try simp only [Nat.zero_add]
          have hz6 := B6.out.size
          have S14 := Lib.hid ((Rs.mine (M5.out.below B6.out (Nat.le_refl _))).src (P := Try.prog) Try.underlying61 (by omega) (strs_one _))
          clear m6 g6 q6
          go_wp2_with (at_builtin; (refine wpList_mine rfl _ _ elS _ rfl rfl M6.out _ rfl rl.length _ S14.out (by omega) (by omega) (by omega) ?_))
          intro A7 c7 w7 m7 g7 q7
          have B7 : Hid (Below vt.heap.size vt w7) := (HK5.out.trans (B6.out.mono hz5)).trans ((only_row (F := fun j => vt.heap.size ≤ j) g7 (fun a ha => (M6.out.base ha).1)).below (fun _ h => h) (by omega))
          have HINS : Hid (sortB (l.take (K + 1)) = ([] : List ByteArray) ++ rl) := by show _ = _; rw [HG3.out, HRL2.out]; exact HINN.out
          have HLI : Hid (rl.length = (sortB (l.take (K + 1))).length) := by show _ = _; rw [HINS.out]; simp
          have M7 : Hid (Mine w.heap.size 1 w7 A7 (sortB (l.take (K + 1))).length c7 (strs (sortB (l.take (K + 1))))) := by show Mine _ _ _ _ _ _ _; rw [← HLI.out, HINS.out, strs_app]; exact m7.mono (by omega)
          have HB7 : Hid (Below w.heap.size w w7) := (HB.out.trans (HBT.out.mono (by omega))).trans (B7.out.mono (by omega))
          rw [HLI.out]
          clear m7 g7 q7
          go_wp2_with fail
          go_roundw
          case rel => exact ⟨K + 1, A7, c7, by omega, by go_num, rfl, M7.out, HB7.out⟩
          case measure => simp [intOf]; omega
      · go_wp2_with fail
        go_loopw [5] (fun s wi => ∃ J : Nat, J ≤ gg.length ∧ s = .int .i64 (J : Int) ∧ Hid (∀ i (h : i < gg.length), i < J → Op.bytesLess gg[i].toList x.toList = true) ∧ ∃ n, wi = wr.drewN n) (fun s _ => gg.length - (intOf s).toNat)
        case atStart => exact ⟨0, Nat.zero_le _, rfl, (fun i h hi => by omega), 0, rfl⟩
        case round =>
          obtain ⟨J, hJ, rfl, HP, nq0, rfl⟩ := hrel
          have hgl := HRW2.out.le
          have hq0 : q.add 0 = q := by unfold Addr.add; simp
          have kf : (J : Int) ≤ (f : Int) := by omega
          have kI : (J : Int) ≤ (gg.length : Int) := by omega
          have k0 : (0 : Int) ≤ (J : Int) := by omega
          by_cases hJl : J < gg.length
          · have d0 : decide ((J : Int) < (gg.length : Int)) = true := by simp; omega
            have d0n : decide (J < gg.length) = true := by simp; omega
            have hfJ : ¬ f = J := by omega
            obtain ⟨qb, qo, hq, lq, y0⟩ := Rs_str HRG.out hJl
            injection hq with hq
            subst hq
            obtain ⟨y, hy⟩ : ∃ y, y = gg[J] := ⟨_, rfl⟩
            have HY := Lib.hid hy
            rw [← hy] at y0
            clear hy
            by_cases h3 : Op.bytesLess y.toList x.toList = true
            · have HP2 : Hid (∀ i (h : i < gg.length), i < J + 1 → Op.bytesLess gg[i].toList x.toList = true) := fun i h hi => by
                by_cases ei : i = J
                · subst ei; rw [← HY.out]; exact h3
                · exact HP.out i h (by omega)
              go_wp2_with fail
              go_quiet (fail)
              go_wp2_with fail
              go_roundw
              case rel => exact ⟨J + 1, by omega, by go_num, HP2, (by first | exact ⟨_, rfl⟩ | exact ⟨_, by rw [World.drewN_drewN]⟩)⟩
              case measure => simp [intOf]; omega
            · have d3 : Op.bytesLess y.toList x.toList = false := by simpa using h3
              have HINN : Hid (insB x gg = gg.take J ++ x :: gg.drop J) := insB_at x hJ HP.out (fun hk => by rw [← HY.out]; exact d3)
              clear h3
              go_wp2_with fail
              go_quiet (fail)
              clear y0
              obtain ⟨vt, hvt⟩ : ∃ vt, vt = (wr.drewN nq0).drewN nq := ⟨_, rfl⟩
              have HBT : Hid (Below wr.heap.size wr vt) := by show Below _ _ _; rw [hvt]; exact below_drewN (below_drewN (Below.refl _ _) nq0) nq
              rw [← hvt]
              clear hvt
              have HGT := Lib.hid (HRG.out.below HBT.out (Nat.le_refl _))
              have HRWT := Lib.hid (HRW2.out.below HBT.out (Nat.le_refl _))
              have hzt := HBT.out.size
              have U0 : ∀ v, Below vt.heap.size vt v → v.cell? ⟨bb, o + K, none⟩ = some (.string x) := fun v hv => ((HBT.out.trans (hv.mono hzt)).cell lb).trans a0
              clear a0
              have D1 : Below vt.heap.size vt vt.drew := (Below.refl _ _).drew
              have SC : Hid (∀ v, Below vt.heap.size vt v → Src Try.prog 1 61 (.slice (some ⟨qb, qo + J, none⟩) (gg.length - J) (f - J)) (gg.length - J) (strs (gg.drop J)) v) := fun v hv => by
                have := cut_src (HGT.out.below hv (Nat.le_refl _)) (k := J) (by omega)
                rw [cut_lit, if_neg hfJ] at this
                exact this
              go_wp2_with fail
              refine wp_region_noPanic ?_
              refine wp_region_held_drew (S := fun v => Below vt.heap.size vt v) (by kernel_rfl) (D1) (fun hHeld => ?_)
              refine wpAnyH_take (i := 0) (oi := ⟨some 30, _, _, _, _, _⟩) (v := ?_) rfl (by kernel_rfl) (by kernel_rfl) (by kernel_rfl) (fun _ _ _ h => h) (Or.inl ⟨by rfl, ?_⟩) (by assumption) ?_
              rotate_left
              · intro w hSw; go_simp; first | done | with_reducible rfl
              try simp only [Act.put, List.setIfInBounds_toArray, List.set_cons_zero, List.set_cons_succ]
              refine wpAnyH_take (i := 1) (oi := ⟨some 31, _, _, _, _, _⟩) (v := ?_) rfl (by kernel_rfl) (by kernel_rfl) (by kernel_rfl) (fun _ _ _ h => h) (Or.inl ⟨by rfl, ?_⟩) (by assumption) ?_
              rotate_left
              · intro w hSw; go_simp; first | done | with_reducible rfl
              try simp only [Act.put, List.setIfInBounds_toArray, List.set_cons_zero, List.set_cons_succ]
              refine wpAnyH_take (i := 2) (oi := ⟨some 32, _, _, _, _, _⟩) (v := ?_) rfl (by kernel_rfl) (by kernel_rfl) (by kernel_rfl) (fun _ _ _ h => h) (Or.inl ⟨by rfl, ?_⟩) (by assumption) ?_
              rotate_left
              · intro w hSw; go_simp; first | done | with_reducible rfl
              try simp only [Act.put, List.setIfInBounds_toArray, List.set_cons_zero, List.set_cons_succ]
              refine wpAnyH_take (i := 3) (oi := ⟨some 33, _, _, _, _, _⟩) (v := ?_) rfl (by kernel_rfl) (by kernel_rfl) (by kernel_rfl) (fun _ _ _ h => h) (Or.inl ⟨by rfl, ?_⟩) (by assumption) ?_
              rotate_left
              · intro w hSw; go_simp; first | done | with_reducible rfl
              try simp only [Act.put, List.setIfInBounds_toArray, List.set_cons_zero, List.set_cons_succ]
              refine wpAnyH_take (i := 5) (oi := ⟨some 35, _, _, _, _, _⟩) (v := ?_) rfl (by kernel_rfl) (by kernel_rfl) (by kernel_rfl) (fun _ _ _ h => h) (Or.inl ⟨by rfl, ?_⟩) (by assumption) ?_
              rotate_left
              · intro w hSw; go_simp; first | done | with_reducible rfl
              try simp only [Act.put, List.setIfInBounds_toArray, List.set_cons_zero, List.set_cons_succ]
              refine wpAnyH_take (i := 6) (oi := ⟨some 36, _, _, _, _, _⟩) (v := ?_) rfl (by kernel_rfl) (by kernel_rfl) (by kernel_rfl) (fun _ _ _ h => h) (Or.inl ⟨by rfl, ?_⟩) (by assumption) ?_
              rotate_left
              · intro w hSw; go_simp; first | done | with_reducible rfl
              try simp only [Act.put, List.setIfInBounds_toArray, List.set_cons_zero, List.set_cons_succ]
              refine wpAnyH_take (i := 7) (oi := ⟨some 37, _, _, _, _, _⟩) (v := ?_) rfl (by kernel_rfl) (by kernel_rfl) (by kernel_rfl) (fun _ _ _ h => h) (Or.inl ⟨by rfl, ?_⟩) (by assumption) ?_
              rotate_left
              · intro w hSw; go_simp; first | done | with_reducible rfl
              try simp only [Act.put, List.setIfInBounds_toArray, List.set_cons_zero, List.set_cons_succ]
              refine wpAnyH_ready (rs := [4]) (by kernel_rfl) (by simp) ?_
              refine AllReadyH.cons (o := ⟨some 34, _, _, _, _, _⟩) rfl (fun K hK => ?_) AllReadyH.nil
              go_simp
              have KA : Below vt.heap.size vt (vt.drew.alloc (.cells #[.string x] 9)) := D1.trans ((bnew _ _).mono D1.size)
              refine hK.out _ _ (KA) (fun hHeld => ?_)
              clear hK K
              try simp only [Act.put, List.setIfInBounds_toArray, List.set_cons_zero, List.set_cons_succ]
              refine wpAnyH_ready (rs := [8]) (by kernel_rfl) (by simp) ?_
              refine AllReadyH.cons (o := ⟨some 38, _, _, _, _, _⟩) rfl (fun K hK => ?_) AllReadyH.nil
              have MA : Mine vt.heap.size 1 (vt.drew.alloc (.cells #[.string x] 9)) (some ⟨vt.heap.size, 0, none⟩) 1 1 [.string x] := Mine.lit vt.drew #[.string x] 9 1 rfl (by unfold maxLen; omega)
              refine step_mine (by kernel_rfl) _ _ elS _ rfl rfl MA _ rfl (gg.length - J) _ (SC.out _ KA) (by omega) (by omega) KA.size ?_
              intro A5 c5 w5 m5 g5 q5
              have K5 : Below vt.heap.size vt w5 := KA.trans ((only_row (F := fun j => vt.heap.size ≤ j) g5 (fun a ha => (MA.base ha).1)).below (fun _ h => h) KA.size)
              have HL5 : Hid (1 + (gg.length - J) = (x :: gg.drop J).length) := by show _ = _; simp <;> omega
              have M5 : Hid (Mine vt.heap.size 1 w5 A5 (x :: gg.drop J).length c5 (strs (x :: gg.drop J))) := by show Mine _ _ _ _ _ _ _; rw [← HL5.out]; exact m5
              rw [HL5.out]
              obtain ⟨rl, hrl⟩ : ∃ rl, rl = x :: gg.drop J := ⟨_, rfl⟩
              have HRL2 := Lib.hid hrl
              rw [← hrl] at M5
              rw [← hrl]
              clear hrl m5 g5 q5 MA
              refine hK.out _ _ (K5) (fun hHeld => ?_)
              clear hK K
              try simp only [Act.put, List.setIfInBounds_toArray, List.set_cons_zero, List.set_cons_succ]
              refine wpAnyH_take (i := 9) (oi := ⟨some 6, _, _, _, _, _⟩) (v := ?_) rfl (by kernel_rfl) (by kernel_rfl) (by kernel_rfl) (fun _ _ _ h => h) (Or.inl ⟨by rfl, ?_⟩) (by assumption) ?_
              rotate_left
              · intro w hSw; go_simp; first | done | with_reducible rfl
              try simp only [Act.put, List.setIfInBounds_toArray, List.set_cons_zero, List.set_cons_succ]
              refine wpAnyH_done (by kernel_rfl) ?_ _
              refine NoPanic.normal ?_
              have HK5 := Lib.hid hHeld
              have HGT5 := Lib.hid (HGT.out.below hHeld (Nat.le_refl _))
              have hz5 := hHeld.size
              clear hHeld D1 U0
              have S13 := Lib.hid (pre_src HGT5.out (k := J) (by omega))
              have hrb : rl.length ≤ 100001 := by rw [HRL2.out]; rw [List.length_cons, List.length_drop]; omega
              go_upto_region 9 with fail
              go_wp2_with (at_builtin; (refine wpList_mine rfl _ _ elS _ rfl rfl (Mine.nil vt.heap.size 1 w5) _ rfl J _ S13.out (by omega) (by omega) hz5 ?_))
              intro A6 c6 w6 m6 g6 q6
              have B6 : Hid (Below w5.heap.size w5 w6) := fresh (by exact g6)
              have M6 : Hid (Mine vt.heap.size 1 w6 A6 J c6 (strs (gg.take J))) := by show Mine _ _ _ _ _ _ _; first | exact m6 | (rw [Nat.zero_add, List.nil_append] at m6; exact m6)
              try simp only [Nat.zero_add]
              have hz6 := B6.out.size
              have S14 := Lib.hid ((Rs.mine (M5.out.below B6.out (Nat.le_refl _))).src (P := Try.prog) Try.underlying61 (by omega) (strs_one _))
              clear m6 g6 q6
              go_wp2_with (at_builtin; (refine wpList_mine rfl _ _ elS _ rfl rfl M6.out _ rfl rl.length _ S14.out (by omega) (by omega) (by omega) ?_))
              intro A7 c7 w7 m7 g7 q7
              have B7 : Hid (Below vt.heap.size vt w7) := (HK5.out.trans (B6.out.mono hz5)).trans ((only_row (F := fun j => vt.heap.size ≤ j) g7 (fun a ha => (M6.out.base ha).1)).below (fun _ h => h) (by omega))
              have HINS : Hid (sortB (l.take (K + 1)) = gg.take J ++ rl) := by show _ = _; rw [HG3.out, HRL2.out]; exact HINN.out
              have HLI : Hid (J + rl.length = (sortB (l.take (K + 1))).length) := by show _ = _; rw [HINS.out]; simp <;> omega
              have M7 : Hid (Mine w.heap.size 1 w7 A7 (sortB (l.take (K + 1))).length c7 (strs (sortB (l.take (K + 1))))) := by show Mine _ _ _ _ _ _ _; rw [← HLI.out, HINS.out, strs_app]; exact m7.mono (by omega)
              have HB7 : Hid (Below w.heap.size w w7) := (HB.out.trans (HBT.out.mono (by omega))).trans (B7.out.mono (by omega))
              rw [HLI.out]
              clear m7 g7 q7
              go_wp2_with fail
              go_roundw
              case rel => exact ⟨K + 1, A7, c7, by omega, by go_num, rfl, M7.out, HB7.out⟩
              case measure => simp [intOf]; omega
          · obtain rfl : J = gg.length := by omega
            have d0 : decide ((gg.length : Int) < (gg.length : Int)) = false := by simp
            have d0n : decide (gg.length < gg.length) = false := by simp
            have HINN : Hid (insB x gg = gg ++ x :: []) := by
              have h1 := insB_at x (Nat.le_refl gg.length) (fun i h hi => HP.out i h h) (fun hk => absurd hk (by omega))
              rw [List.take_length, List.drop_length] at h1
              exact h1
            clear hJl
            by_cases hfJ : f = gg.length
            · subst hfJ
              go_wp2_with fail
              go_quiet (fail)
              obtain ⟨vt, hvt⟩ : ∃ vt, vt = (wr.drewN nq0).drewN nq := ⟨_, rfl⟩
              have HBT : Hid (Below wr.heap.size wr vt) := by show Below _ _ _; rw [hvt]; exact below_drewN (below_drewN (Below.refl _ _) nq0) nq
              rw [← hvt]
              clear hvt
              have HGT := Lib.hid (HRG.out.below HBT.out (Nat.le_refl _))
              have HRWT := Lib.hid (HRW2.out.below HBT.out (Nat.le_refl _))
              have hzt := HBT.out.size
              have U0 : ∀ v, Below vt.heap.size vt v → v.cell? ⟨bb, o + K, none⟩ = some (.string x) := fun v hv => ((HBT.out.trans (hv.mono hzt)).cell lb).trans a0
              clear a0
              have D1 : Below vt.heap.size vt vt.drew := (Below.refl _ _).drew
              have SC : Hid (∀ v, Below vt.heap.size vt v → Src Try.prog 1 61 (.slice (some q) 0 0) 0 (strs (([] : List ByteArray))) v) := fun v hv => by
                have := cut_src (HGT.out.below hv (Nat.le_refl _)) (k := gg.length) (by omega)
                rw [cut_q, if_pos rfl, Nat.sub_self, List.drop_length] at this
                exact this
              go_wp2_with fail
              refine wp_region_noPanic ?_
              refine wp_region_held_drew (S := fun v => Below vt.heap.size vt v) (by kernel_rfl) (D1) (fun hHeld => ?_)
              refine wpAnyH_take (i := 0) (oi := ⟨some 30, _, _, _, _, _⟩) (v := ?_) rfl (by kernel_rfl) (by kernel_rfl) (by kernel_rfl) (fun _ _ _ h => h) (Or.inl ⟨by rfl, ?_⟩) (by assumption) ?_
              rotate_left
              · intro w hSw; go_simp; first | done | with_reducible rfl
              try simp only [Act.put, List.setIfInBounds_toArray, List.set_cons_zero, List.set_cons_succ]
              refine wpAnyH_take (i := 1) (oi := ⟨some 31, _, _, _, _, _⟩) (v := ?_) rfl (by kernel_rfl) (by kernel_rfl) (by kernel_rfl) (fun _ _ _ h => h) (Or.inl ⟨by rfl, ?_⟩) (by assumption) ?_
              rotate_left
              · intro w hSw; go_simp; first | done | with_reducible rfl
              try simp only [Act.put, List.setIfInBounds_toArray, List.set_cons_zero, List.set_cons_succ]
              refine wpAnyH_take (i := 2) (oi := ⟨some 32, _, _, _, _, _⟩) (v := ?_) rfl (by kernel_rfl) (by kernel_rfl) (by kernel_rfl) (fun _ _ _ h => h) (Or.inl ⟨by rfl, ?_⟩) (by assumption) ?_
              rotate_left
              · intro w hSw; go_simp; first | done | with_reducible rfl
              try simp only [Act.put, List.setIfInBounds_toArray, List.set_cons_zero, List.set_cons_succ]
              refine wpAnyH_take (i := 3) (oi := ⟨some 33, _, _, _, _, _⟩) (v := ?_) rfl (by kernel_rfl) (by kernel_rfl) (by kernel_rfl) (fun _ _ _ h => h) (Or.inl ⟨by rfl, ?_⟩) (by assumption) ?_
              rotate_left
              · intro w hSw; go_simp; first | done | with_reducible rfl
              try simp only [Act.put, List.setIfInBounds_toArray, List.set_cons_zero, List.set_cons_succ]
              refine wpAnyH_take (i := 5) (oi := ⟨some 35, _, _, _, _, _⟩) (v := ?_) rfl (by kernel_rfl) (by kernel_rfl) (by kernel_rfl) (fun _ _ _ h => h) (Or.inl ⟨by rfl, ?_⟩) (by assumption) ?_
              rotate_left
              · intro w hSw; go_simp; first | done | with_reducible rfl
              try simp only [Act.put, List.setIfInBounds_toArray, List.set_cons_zero, List.set_cons_succ]
              refine wpAnyH_take (i := 6) (oi := ⟨some 36, _, _, _, _, _⟩) (v := ?_) rfl (by kernel_rfl) (by kernel_rfl) (by kernel_rfl) (fun _ _ _ h => h) (Or.inl ⟨by rfl, ?_⟩) (by assumption) ?_
              rotate_left
              · intro w hSw; go_simp; first | done | with_reducible rfl
              try simp only [Act.put, List.setIfInBounds_toArray, List.set_cons_zero, List.set_cons_succ]
              refine wpAnyH_take (i := 7) (oi := ⟨some 37, _, _, _, _, _⟩) (v := ?_) rfl (by kernel_rfl) (by kernel_rfl) (by kernel_rfl) (fun _ _ _ h => h) (Or.inl ⟨by rfl, ?_⟩) (by assumption) ?_
              rotate_left
              · intro w hSw; go_simp; first | done | with_reducible rfl
              try simp only [Act.put, List.setIfInBounds_toArray, List.set_cons_zero, List.set_cons_succ]
              refine wpAnyH_ready (rs := [4]) (by kernel_rfl) (by simp) ?_
              refine AllReadyH.cons (o := ⟨some 34, _, _, _, _, _⟩) rfl (fun K hK => ?_) AllReadyH.nil
              go_simp
              have KA : Below vt.heap.size vt (vt.drew.alloc (.cells #[.string x] 9)) := D1.trans ((bnew _ _).mono D1.size)
              refine hK.out _ _ (KA) (fun hHeld => ?_)
              clear hK K
              try simp only [Act.put, List.setIfInBounds_toArray, List.set_cons_zero, List.set_cons_succ]
              refine wpAnyH_ready (rs := [8]) (by kernel_rfl) (by simp) ?_
              refine AllReadyH.cons (o := ⟨some 38, _, _, _, _, _⟩) rfl (fun K hK => ?_) AllReadyH.nil
              have MA : Mine vt.heap.size 1 (vt.drew.alloc (.cells #[.string x] 9)) (some ⟨vt.heap.size, 0, none⟩) 1 1 [.string x] := Mine.lit vt.drew #[.string x] 9 1 rfl (by unfold maxLen; omega)
              refine step_mine (by kernel_rfl) _ _ elS _ rfl rfl MA _ rfl 0 _ (SC.out _ KA) (by omega) (by omega) KA.size ?_
              intro A5 c5 w5 m5 g5 q5
              have K5 : Below vt.heap.size vt w5 := KA.trans ((only_row (F := fun j => vt.heap.size ≤ j) g5 (fun a ha => (MA.base ha).1)).below (fun _ h => h) KA.size)
              have HL5 : Hid (1 + 0 = (x :: ([] : List ByteArray)).length) := by show _ = _; simp <;> omega
              have M5 : Hid (Mine vt.heap.size 1 w5 A5 (x :: ([] : List ByteArray)).length c5 (strs (x :: ([] : List ByteArray)))) := by show Mine _ _ _ _ _ _ _; rw [← HL5.out]; exact m5
              rw [HL5.out]
              obtain ⟨rl, hrl⟩ : ∃ rl, rl = x :: ([] : List ByteArray) := ⟨_, rfl⟩
              have HRL2 := Lib.hid hrl
              rw [← hrl] at M5
              rw [← hrl]
              clear hrl m5 g5 q5 MA
              refine hK.out _ _ (K5) (fun hHeld => ?_)
              clear hK K
              try simp only [Act.put, List.setIfInBounds_toArray, List.set_cons_zero, List.set_cons_succ]
              refine wpAnyH_take (i := 9) (oi := ⟨some 6, _, _, _, _, _⟩) (v := ?_) rfl (by kernel_rfl) (by kernel_rfl) (by kernel_rfl) (fun _ _ _ h => h) (Or.inl ⟨by rfl, ?_⟩) (by assumption) ?_
              rotate_left
              · intro w hSw; go_simp; first | done | with_reducible rfl
              try simp only [Act.put, List.setIfInBounds_toArray, List.set_cons_zero, List.set_cons_succ]
              refine wpAnyH_done (by kernel_rfl) ?_ _
              refine NoPanic.normal ?_
              have HK5 := Lib.hid hHeld
              have HGT5 := Lib.hid (HGT.out.below hHeld (Nat.le_refl _))
              have hz5 := hHeld.size
              clear hHeld D1 U0
              have S13 := Lib.hid (pre_src HGT5.out (k := gg.length) (by omega))
              rw [List.take_length] at S13
              have hrb : rl.length ≤ 100001 := by rw [HRL2.out]; simp
              go_upto_region 9 with fail
              go_wp2_with (at_builtin; (refine wpList_mine rfl _ _ elS _ rfl rfl (Mine.nil vt.heap.size 1 w5) _ rfl gg.length _ S13.out (by omega) (by omega) hz5 ?_))
              intro A6 c6 w6 m6 g6 q6
              have B6 : Hid (Below w5.heap.size w5 w6) := fresh (by exact g6)
              have M6 : Hid (Mine vt.heap.size 1 w6 A6 gg.length c6 (strs (gg))) := by show Mine _ _ _ _ _ _ _; first | exact m6 | (rw [Nat.zero_add, List.nil_append] at m6; exact m6)
              try simp only [Nat.zero_add]
              have hz6 := B6.out.size
              have S14 := Lib.hid ((Rs.mine (M5.out.below B6.out (Nat.le_refl _))).src (P := Try.prog) Try.underlying61 (by omega) (strs_one _))
              clear m6 g6 q6
              go_wp2_with (at_builtin; (refine wpList_mine rfl _ _ elS _ rfl rfl M6.out _ rfl rl.length _ S14.out (by omega) (by omega) (by omega) ?_))
              intro A7 c7 w7 m7 g7 q7
              have B7 : Hid (Below vt.heap.size vt w7) := (HK5.out.trans (B6.out.mono hz5)).trans ((only_row (F := fun j => vt.heap.size ≤ j) g7 (fun a ha => (M6.out.base ha).1)).below (fun _ h => h) (by omega))
              have HINS : Hid (sortB (l.take (K + 1)) = gg ++ rl) := by show _ = _; rw [HG3.out, HRL2.out]; exact HINN.out
              have HLI : Hid (gg.length + rl.length = (sortB (l.take (K + 1))).length) := by show _ = _; rw [HINS.out]; simp <;> omega
              have M7 : Hid (Mine w.heap.size 1 w7 A7 (sortB (l.take (K + 1))).length c7 (strs (sortB (l.take (K + 1))))) := by show Mine _ _ _ _ _ _ _; rw [← HLI.out, HINS.out, strs_app]; exact m7.mono (by omega)
              have HB7 : Hid (Below w.heap.size w w7) := (HB.out.trans (HBT.out.mono (by omega))).trans (B7.out.mono (by omega))
              rw [HLI.out]
              clear m7 g7 q7
              go_wp2_with fail
              go_roundw
              case rel => exact ⟨K + 1, A7, c7, by omega, by go_num, rfl, M7.out, HB7.out⟩
              case measure => simp [intOf]; omega
            · go_wp2_with fail
              go_quiet (fail)
              obtain ⟨vt, hvt⟩ : ∃ vt, vt = (wr.drewN nq0).drewN nq := ⟨_, rfl⟩
              have HBT : Hid (Below wr.heap.size wr vt) := by show Below _ _ _; rw [hvt]; exact below_drewN (below_drewN (Below.refl _ _) nq0) nq
              rw [← hvt]
              clear hvt
              have HGT := Lib.hid (HRG.out.below HBT.out (Nat.le_refl _))
              have HRWT := Lib.hid (HRW2.out.below HBT.out (Nat.le_refl _))
              have hzt := HBT.out.size
              have U0 : ∀ v, Below vt.heap.size vt v → v.cell? ⟨bb, o + K, none⟩ = some (.string x) := fun v hv => ((HBT.out.trans (hv.mono hzt)).cell lb).trans a0
              clear a0
              have D1 : Below vt.heap.size vt vt.drew := (Below.refl _ _).drew
              have SC : Hid (∀ v, Below vt.heap.size vt v → Src Try.prog 1 61 (.slice (some (q.add gg.length)) 0 (f - gg.length)) 0 (strs (([] : List ByteArray))) v) := fun v hv => by
                have := cut_src (HGT.out.below hv (Nat.le_refl _)) (k := gg.length) (by omega)
                rw [cut_q, if_neg hfJ, Nat.sub_self, List.drop_length] at this
                exact this
              go_wp2_with fail
              refine wp_region_noPanic ?_
              refine wp_region_held_drew (S := fun v => Below vt.heap.size vt v) (by kernel_rfl) (D1) (fun hHeld => ?_)
              refine wpAnyH_take (i := 0) (oi := ⟨some 30, _, _, _, _, _⟩) (v := ?_) rfl (by kernel_rfl) (by kernel_rfl) (by kernel_rfl) (fun _ _ _ h => h) (Or.inl ⟨by rfl, ?_⟩) (by assumption) ?_
              rotate_left
              · intro w hSw; go_simp; first | done | with_reducible rfl
              try simp only [Act.put, List.setIfInBounds_toArray, List.set_cons_zero, List.set_cons_succ]
              refine wpAnyH_take (i := 1) (oi := ⟨some 31, _, _, _, _, _⟩) (v := ?_) rfl (by kernel_rfl) (by kernel_rfl) (by kernel_rfl) (fun _ _ _ h => h) (Or.inl ⟨by rfl, ?_⟩) (by assumption) ?_
              rotate_left
              · intro w hSw; go_simp; first | done | with_reducible rfl
              try simp only [Act.put, List.setIfInBounds_toArray, List.set_cons_zero, List.set_cons_succ]
              refine wpAnyH_take (i := 2) (oi := ⟨some 32, _, _, _, _, _⟩) (v := ?_) rfl (by kernel_rfl) (by kernel_rfl) (by kernel_rfl) (fun _ _ _ h => h) (Or.inl ⟨by rfl, ?_⟩) (by assumption) ?_
              rotate_left
              · intro w hSw; go_simp; first | done | with_reducible rfl
              try simp only [Act.put, List.setIfInBounds_toArray, List.set_cons_zero, List.set_cons_succ]
              refine wpAnyH_take (i := 3) (oi := ⟨some 33, _, _, _, _, _⟩) (v := ?_) rfl (by kernel_rfl) (by kernel_rfl) (by kernel_rfl) (fun _ _ _ h => h) (Or.inl ⟨by rfl, ?_⟩) (by assumption) ?_
              rotate_left
              · intro w hSw; go_simp; first | done | with_reducible rfl
              try simp only [Act.put, List.setIfInBounds_toArray, List.set_cons_zero, List.set_cons_succ]
              refine wpAnyH_take (i := 5) (oi := ⟨some 35, _, _, _, _, _⟩) (v := ?_) rfl (by kernel_rfl) (by kernel_rfl) (by kernel_rfl) (fun _ _ _ h => h) (Or.inl ⟨by rfl, ?_⟩) (by assumption) ?_
              rotate_left
              · intro w hSw; go_simp; first | done | with_reducible rfl
              try simp only [Act.put, List.setIfInBounds_toArray, List.set_cons_zero, List.set_cons_succ]
              refine wpAnyH_take (i := 6) (oi := ⟨some 36, _, _, _, _, _⟩) (v := ?_) rfl (by kernel_rfl) (by kernel_rfl) (by kernel_rfl) (fun _ _ _ h => h) (Or.inl ⟨by rfl, ?_⟩) (by assumption) ?_
              rotate_left
              · intro w hSw; go_simp; first | done | with_reducible rfl
              try simp only [Act.put, List.setIfInBounds_toArray, List.set_cons_zero, List.set_cons_succ]
              refine wpAnyH_take (i := 7) (oi := ⟨some 37, _, _, _, _, _⟩) (v := ?_) rfl (by kernel_rfl) (by kernel_rfl) (by kernel_rfl) (fun _ _ _ h => h) (Or.inl ⟨by rfl, ?_⟩) (by assumption) ?_
              rotate_left
              · intro w hSw; go_simp; first | done | with_reducible rfl
              try simp only [Act.put, List.setIfInBounds_toArray, List.set_cons_zero, List.set_cons_succ]
              refine wpAnyH_ready (rs := [4]) (by kernel_rfl) (by simp) ?_
              refine AllReadyH.cons (o := ⟨some 34, _, _, _, _, _⟩) rfl (fun K hK => ?_) AllReadyH.nil
              go_simp
              have KA : Below vt.heap.size vt (vt.drew.alloc (.cells #[.string x] 9)) := D1.trans ((bnew _ _).mono D1.size)
              refine hK.out _ _ (KA) (fun hHeld => ?_)
              clear hK K
              try simp only [Act.put, List.setIfInBounds_toArray, List.set_cons_zero, List.set_cons_succ]
              refine wpAnyH_ready (rs := [8]) (by kernel_rfl) (by simp) ?_
              refine AllReadyH.cons (o := ⟨some 38, _, _, _, _, _⟩) rfl (fun K hK => ?_) AllReadyH.nil
              have MA : Mine vt.heap.size 1 (vt.drew.alloc (.cells #[.string x] 9)) (some ⟨vt.heap.size, 0, none⟩) 1 1 [.string x] := Mine.lit vt.drew #[.string x] 9 1 rfl (by unfold maxLen; omega)
              refine step_mine (by kernel_rfl) _ _ elS _ rfl rfl MA _ rfl 0 _ (SC.out _ KA) (by omega) (by omega) KA.size ?_
              intro A5 c5 w5 m5 g5 q5
              have K5 : Below vt.heap.size vt w5 := KA.trans ((only_row (F := fun j => vt.heap.size ≤ j) g5 (fun a ha => (MA.base ha).1)).below (fun _ h => h) KA.size)
              have HL5 : Hid (1 + 0 = (x :: ([] : List ByteArray)).length) := by show _ = _; simp <;> omega
              have M5 : Hid (Mine vt.heap.size 1 w5 A5 (x :: ([] : List ByteArray)).length c5 (strs (x :: ([] : List ByteArray)))) := by show Mine _ _ _ _ _ _ _; rw [← HL5.out]; exact m5
              rw [HL5.out]
              obtain ⟨rl, hrl⟩ : ∃ rl, rl = x :: ([] : List ByteArray) := ⟨_, rfl⟩
              have HRL2 := Lib.hid hrl
              rw [← hrl] at M5
              rw [← hrl]
              clear hrl m5 g5 q5 MA
              refine hK.out _ _ (K5) (fun hHeld => ?_)
              clear hK K
              try simp only [Act.put, List.setIfInBounds_toArray, List.set_cons_zero, List.set_cons_succ]
              refine wpAnyH_take (i := 9) (oi := ⟨some 6, _, _, _, _, _⟩) (v := ?_) rfl (by kernel_rfl) (by kernel_rfl) (by kernel_rfl) (fun _ _ _ h => h) (Or.inl ⟨by rfl, ?_⟩) (by assumption) ?_
              rotate_left
              · intro w hSw; go_simp; first | done | with_reducible rfl
              try simp only [Act.put, List.setIfInBounds_toArray, List.set_cons_zero, List.set_cons_succ]
              refine wpAnyH_done (by kernel_rfl) ?_ _
              refine NoPanic.normal ?_
              have HK5 := Lib.hid hHeld
              have HGT5 := Lib.hid (HGT.out.below hHeld (Nat.le_refl _))
              have hz5 := hHeld.size
              clear hHeld D1 U0
              have S13 := Lib.hid (pre_src HGT5.out (k := gg.length) (by omega))
              rw [List.take_length] at S13
              have hrb : rl.length ≤ 100001 := by rw [HRL2.out]; simp
              go_upto_region 9 with fail
              go_wp2_with (at_builtin; (refine wpList_mine rfl _ _ elS _ rfl rfl (Mine.nil vt.heap.size 1 w5) _ rfl gg.length _ S13.out (by omega) (by omega) hz5 ?_))
              intro A6 c6 w6 m6 g6 q6
              have B6 : Hid (Below w5.heap.size w5 w6) := fresh (by exact g6)
              have M6 : Hid (Mine vt.heap.size 1 w6 A6 gg.length c6 (strs (gg))) := by show Mine _ _ _ _ _ _ _; first | exact m6 | (rw [Nat.zero_add, List.nil_append] at m6; exact m6)
              try simp only [Nat.zero_add]
              have hz6 := B6.out.size
              have S14 := Lib.hid ((Rs.mine (M5.out.below B6.out (Nat.le_refl _))).src (P := Try.prog) Try.underlying61 (by omega) (strs_one _))
              clear m6 g6 q6
              go_wp2_with (at_builtin; (refine wpList_mine rfl _ _ elS _ rfl rfl M6.out _ rfl rl.length _ S14.out (by omega) (by omega) (by omega) ?_))
              intro A7 c7 w7 m7 g7 q7
              have B7 : Hid (Below vt.heap.size vt w7) := (HK5.out.trans (B6.out.mono hz5)).trans ((only_row (F := fun j => vt.heap.size ≤ j) g7 (fun a ha => (M6.out.base ha).1)).below (fun _ h => h) (by omega))
              have HINS : Hid (sortB (l.take (K + 1)) = gg ++ rl) := by show _ = _; rw [HG3.out, HRL2.out]; exact HINN.out
              have HLI : Hid (gg.length + rl.length = (sortB (l.take (K + 1))).length) := by show _ = _; rw [HINS.out]; simp <;> omega
              have M7 : Hid (Mine w.heap.size 1 w7 A7 (sortB (l.take (K + 1))).length c7 (strs (sortB (l.take (K + 1))))) := by show Mine _ _ _ _ _ _ _; rw [← HLI.out, HINS.out, strs_app]; exact m7.mono (by omega)
              have HB7 : Hid (Below w.heap.size w w7) := (HB.out.trans (HBT.out.mono (by omega))).trans (B7.out.mono (by omega))
              rw [HLI.out]
              clear m7 g7 q7
              go_wp2_with fail
              go_roundw
              case rel => exact ⟨K + 1, A7, c7, by omega, by go_num, rfl, M7.out, HB7.out⟩
              case measure => simp [intOf]; omega
    · obtain rfl : K = l.length := by omega
      have hnn : ¬ (l.length : Int) < l.length := by omega
      rw [HEN.out] at HRW2
      rw [HEN.out]
      clear hlt
      go_wp2_with fail
      go_ret
      exact ⟨E, f, rfl, HRW2.out, HB.out⟩
end
end Go.Proofs.Ytmhbfplpodikiaa.Ac
