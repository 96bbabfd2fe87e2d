/- Proves what the law's checks of one call of Take, of At, and of all slots return at the right answers: true. Conditions: as each theorem names them. -/
import Derived.Test.YtighehonkookhaaNl
namespace Go.Proofs.Ytighehonkookhaa.Np
open Go.RowKit Ap Mi Nm Nw Na Nb Rg Nc Nd Nx Nf Ng Nh Nj Nk Nl

/-- What a check of Take leaves. -/
def tookPost (F : Nat → Prop) (w : World) (g m G : Nat) (s : St) : Ending → World → Prop := fun e w' =>
  e = .returned (.bool true) ∧ Are (More F w) w' g m G (tkS m s) ∧ Only F w w'
theorem tight_back {F : Nat → Prop} {w w0 w' : World} {g m G : Nat} {s : St} (hb : Below w.heap.size w w0) (h : Are (More (fun j => F j ∧ j < w.heap.size) w0) w' g m G s) (ho : Only (fun j => F j ∧ j < w.heap.size) w0 w') : Are (More F w) w' g m G s ∧ Only F w w' :=
  ⟨h.mono (fun j _ hj => more_of hb.size j hj), (Only.of_below hb (Nat.le_refl _) F).trans (ho.mono fun _ _ hf => Or.inl hf.1)⟩
set_option maxRecDepth 100000 in
set_option maxHeartbeats 1000000 in
theorem takes_true {F : Nat → Prop} {w : World} {g m G : Nat} {s : St} (h : Are F w g m G s) (hG : 1 ≤ G) (n x e : Int) (hn : tkN m s = n) (hx : tkG m s = x) (he : tkE m s = e) :
    Calls Try.prog 13 #[.pointer (some ⟨g, 0, none⟩), .agg #[.int .i64 n, .int .i64 x], .int .i64 e] w (tookPost F w g m G s) := by
  obtain ⟨w0, hw0⟩ : ∃ w0, w0 = w.alloc (.cells #[.int .i64 n, .int .i64 x] 35) := ⟨_, rfl⟩
  have b0 : Below w.heap.size w w0 := by rw [hw0]; exact bnew _ _
  have p0 : Blk w0 w.heap.size #[.int .i64 n, .int .i64 x] 35 := by rw [hw0]; exact Blk.new _ _ _
  have HT := Lib.hid (take_any (h.tight.below b0 (Nat.le_refl _)) hG)
  unfold takePost at HT
  rw [hn, hx, he] at HT
  have HB0 := Lib.hid b0; have P0 := Lib.hid p0
  clear h hn hx he b0 p0
  unfold tookPost
  go_enter Try.func13, Try.ntmps13
  go_wp2_with fail
  rw [← hw0]
  clear hw0
  refine HT.out.mono ?_
  rintro r w1 ⟨rfl, ha, ho⟩
  have q0 := P0.out.only ho (fun hf => by have := hf.2; omega)
  have HTB := Lib.hid (tight_back HB0.out ha ho)
  obtain ⟨d0, d1, d2, d3⟩ := q0.two
  have hz := q0.lt
  clear ha ho q0
  go_wp2_with fail
  go_ret
  exact ⟨retB (by simp), HTB.out.1.below (bnew _ _) (Nat.le_refl _), HTB.out.2.alloc _⟩

set_option maxRecDepth 100000 in
set_option maxHeartbeats 1000000 in
theorem at_true {F : Nat → Prop} {w : World} {g m G : Nat} {s : St} (h : Are F w g m G s) (k n x e : Int) (hn : aN s k = n) (hx : aG s k = x) (he : aE s k = e) :
    Calls Try.prog 17 #[.pointer (some ⟨g, 0, none⟩), .int .i64 k, .agg #[.int .i64 n, .int .i64 x], .int .i64 e] w (boolTo true w) := by
  obtain ⟨w0, hw0⟩ : ∃ w0, w0 = w.alloc (.cells #[.int .i64 n, .int .i64 x] 35) := ⟨_, rfl⟩
  have b0 : Below w.heap.size w w0 := by rw [hw0]; exact bnew _ _
  have p0 : Blk w0 w.heap.size #[.int .i64 n, .int .i64 x] 35 := by rw [hw0]; exact Blk.new _ _ _
  have HT := Lib.hid (at_any (h.below b0 (Nat.le_refl _)) k)
  unfold atPost at HT
  rw [hn, hx, he] at HT
  have HB0 := Lib.hid b0; have P0 := Lib.hid p0
  clear h hn hx he b0 p0
  unfold boolTo
  go_enter Try.func17, Try.ntmps17
  go_wp2_with fail
  rw [← hw0]
  clear hw0
  refine HT.out.mono ?_
  rintro r w1 ⟨rfl, hb⟩
  have q0 := P0.out.below hb P0.out.lt
  have HB := Lib.hid (HB0.out.trans (hb.mono HB0.out.size))
  obtain ⟨d0, d1, d2, d3⟩ := q0.two
  have hz := q0.lt
  clear hb q0
  go_wp2_with fail
  go_ret
  exact ⟨retB (by simp), HB.out.alloc HB.out.size _⟩

set_option maxRecDepth 100000 in
set_option maxHeartbeats 4000000 in
theorem looks_true {F : Nat → Prop} {w : World} {g m G : Nat} {s : St} {X Y Z : Option Addr} {c d e : Nat} (h : Are F w g m G s) (hG : G ≤ 1000000000) (hs : Spa w s X c Y d Z e) :
    Calls Try.prog 12 #[.pointer (some ⟨g, 0, none⟩), .agg #[.int .i64 (m : Int), .slice X s.gens.length c, .slice Y s.tk.length d, .slice Z s.fr.length e]] w (boolTo true w) := by
  obtain ⟨w0, hw0⟩ : ∃ w0, w0 = w.alloc (.cells #[.int .i64 (m : Int), .slice X s.gens.length c, .slice Y s.tk.length d, .slice Z s.fr.length e] 31) := ⟨_, rfl⟩
  have b0 : Below w.heap.size w w0 := by rw [hw0]; exact bnew _ _
  have p0 : Blk w0 w.heap.size #[.int .i64 (m : Int), .slice X s.gens.length c, .slice Y s.tk.length d, .slice Z s.fr.length e] 31 := by rw [hw0]; exact Blk.new _ _ _
  have hle := h.inv.le; have hhi := h.hi; have hfr := h.inv.frl
  have HH := Lib.hid (h.below b0 (Nat.le_refl _)); have HS := Lib.hid (hs.below b0 (Nat.le_refl _))
  have HRF := Lib.hid (refs_any HH.out)
  have HB0 := Lib.hid b0; have P0 := Lib.hid p0
  have HI := Lib.hid h.inv; have HM := Lib.hid h.hi
  have hrl := refs_len h.inv
  have hrb : (refs s).length ≤ 1048576 := by omega
  have HRL := Lib.hid hrl
  have hz0 : w.heap.size < w0.heap.size := p0.lt
  obtain ⟨R, hR⟩ : ∃ R, R = refs s := ⟨_, rfl⟩
  have HR := Lib.hid hR
  unfold refsPost at HRF
  rw [← hR] at HRF hrb HRL
  clear h hs b0 p0 hrl hR
  unfold boolTo
  go_enter Try.func12, Try.ntmps12
  go_wp2_with fail
  rw [← hw0]
  clear hw0
  refine HRF.out.mono ?_
  rintro r w1 ⟨A, q, rfl, hm, hb⟩
  have HB1 := Lib.hid (HB0.out.trans (hb.mono HB0.out.size))
  have HB01 := Lib.hid hb
  have HH1 := Lib.hid (HH.out.below hb (Nat.le_refl _)); have HS1 := Lib.hid (HS.out.below hb (Nat.le_refl _))
  have Q0 := Lib.hid (P0.out.below hb P0.out.lt)
  have HMR := Lib.hid hm
  have hz1 : w0.heap.size ≤ w1.heap.size := hb.size
  clear hm hb HRF
  go_wp2_with fail
  have D1 : Below w1.heap.size w1 w1.drew := (Below.refl w1.heap.size w1).drew
  have TH : Hid (∀ v, Below w1.heap.size w1 v → Are F v g m G s) := fun v hv => HH1.out.below hv (Nat.le_refl _)
  have TS : Hid (∀ v, Below w1.heap.size w1 v → Spa v s X c Y d Z e) := fun v hv => HS1.out.below hv (Nat.le_refl _)
  have TR : Hid (∀ v, Below w1.heap.size w1 v → Rs v 2 A R.length q (rfL R)) := fun v hv => (Rs.mine HMR.out).below hv (Nat.le_refl _)
  have tc0 : ∀ v, Below w1.heap.size w1 v → v.cell? ⟨w.heap.size, 0, none⟩ = some (.int .i64 (m : Int)) := fun v hv => (Q0.out.below hv Q0.out.lt).cell 0
  have tc1 : ∀ v, Below w1.heap.size w1 v → v.cell? ⟨w.heap.size, 1, none⟩ = some (.slice X s.gens.length c) := fun v hv => (Q0.out.below hv Q0.out.lt).cell 1
  have tc2 : ∀ v, Below w1.heap.size w1 v → v.cell? ⟨w.heap.size, 2, none⟩ = some (.slice Y s.tk.length d) := fun v hv => (Q0.out.below hv Q0.out.lt).cell 2
  have tc3 : ∀ v, Below w1.heap.size w1 v → v.cell? ⟨w.heap.size, 3, none⟩ = some (.slice Z s.fr.length e) := fun v hv => (Q0.out.below hv Q0.out.lt).cell 3
  refine wp_region_noPanic ?_
  refine wp_region_held_drew (S := fun v => Below w1.heap.size w1 v) (by kernel_rfl) (D1) (fun hHeld => ?_)
  refine wpAnyH_take (i := 0) (oi := ⟨some 9, _, _, _, _, _⟩) (v := ?_) rfl (by kernel_rfl) (by kernel_rfl) (by kernel_rfl) (fun _ _ _ h => h) (Or.inl ⟨by rfl, ?_⟩) (by assumption) ?_
  rotate_left
  · intro w hSw; go_simp; first | done | with_reducible rfl
  try simp only [Act.put, List.setIfInBounds_toArray, List.set_cons_zero, List.set_cons_succ]
  refine wpAnyH_take (i := 1) (oi := ⟨some 10, _, _, _, _, _⟩) (v := ?_) rfl (by kernel_rfl) (by kernel_rfl) (by kernel_rfl) (fun _ _ _ h => h) (Or.inl ⟨by rfl, ?_⟩) (by assumption) ?_
  rotate_left
  · intro w hSw; go_simp; first | done | with_reducible rfl
  try simp only [Act.put, List.setIfInBounds_toArray, List.set_cons_zero, List.set_cons_succ]
  refine wpAnyH_ready (rs := [2]) (by kernel_rfl) (by simp) ?_
  refine AllReadyH.cons (o := ⟨some 11, _, _, _, _, _⟩) rfl (fun K hK => ?_) AllReadyH.nil
  go_simp
  refine (rrefs_any (TS.out _ hHeld) HI.out HM.out).mono ?_
  unfold refsPost
  rw [← HR.out]
  rintro r v2 ⟨A2, q2, rfl, m2, b2⟩
  have HM2 := Lib.hid (Rs.mine m2)
  have K2 := bstep hHeld b2
  clear m2 b2
  go_simp
  refine hK.out _ _ (K2) (fun hHeld => ?_)
  clear hK K
  try simp only [Act.put, List.setIfInBounds_toArray, List.set_cons_zero, List.set_cons_succ]
  refine wpAnyH_ready (rs := [3]) (by kernel_rfl) (by simp) ?_
  refine AllReadyH.cons (o := ⟨some 12, _, _, _, _, _⟩) rfl (fun K hK => ?_) AllReadyH.nil
  go_simp
  refine (same_true (TR.out _ hHeld) HM2.out).mono ?_
  rintro r v3 ⟨rfl, b3⟩
  have K3 := bstep hHeld b3
  clear b3
  go_simp
  refine hK.out _ _ (K3) (fun hHeld => ?_)
  clear hK K
  try simp only [Act.put, List.setIfInBounds_toArray, List.set_cons_zero, List.set_cons_succ]
  refine wpAnyH_take (i := 4) (oi := ⟨some 13, _, _, _, _, _⟩) (v := ?_) rfl (by kernel_rfl) (by kernel_rfl) (by kernel_rfl) (fun _ _ _ h => h) (Or.inl ⟨by rfl, ?_⟩) (by assumption) ?_
  rotate_left
  · intro w hSw; go_simp; first | done | with_reducible rfl
  try simp only [Act.put, List.setIfInBounds_toArray, List.set_cons_zero, List.set_cons_succ]
  refine wpAnyH_take (i := 5) (oi := ⟨some 14, _, _, _, _, _⟩) (v := ?_) rfl (by kernel_rfl) (by kernel_rfl) (by kernel_rfl) (fun _ _ _ h => h) (Or.inl ⟨by rfl, ?_⟩) (by assumption) ?_
  rotate_left
  · intro w hSw; go_simp; first | done | with_reducible rfl
  try simp only [Act.put, List.setIfInBounds_toArray, List.set_cons_zero, List.set_cons_succ]
  refine wpAnyH_take (i := 6) (oi := ⟨some 15, _, _, _, _, _⟩) (v := ?_) rfl (by kernel_rfl) (by kernel_rfl) (by kernel_rfl) (fun _ _ _ h => h) (Or.inl ⟨by rfl, ?_⟩) (by assumption) ?_
  rotate_left
  · intro w hSw; go_simp; first | done | with_reducible rfl
  try simp only [Act.put, List.setIfInBounds_toArray, List.set_cons_zero, List.set_cons_succ]
  refine wpAnyH_take (i := 8) (oi := ⟨some 17, _, _, _, _, _⟩) (v := ?_) rfl (by kernel_rfl) (by kernel_rfl) (by kernel_rfl) (fun _ _ _ h => h) (Or.inl ⟨by rfl, ?_⟩) (by assumption) ?_
  rotate_left
  · intro w hSw; go_simp; first | done | with_reducible rfl
  try simp only [Act.put, List.setIfInBounds_toArray, List.set_cons_zero, List.set_cons_succ]
  refine wpAnyH_take (i := 9) (oi := ⟨some 18, _, _, _, _, _⟩) (v := ?_) rfl (by kernel_rfl) (by kernel_rfl) (by kernel_rfl) (fun _ _ _ h => h) (Or.inl ⟨by rfl, ?_⟩) (by assumption) ?_
  rotate_left
  · intro w hSw; go_simp; first | done | with_reducible rfl
  try simp only [Act.put, List.setIfInBounds_toArray, List.set_cons_zero, List.set_cons_succ]
  refine wpAnyH_ready (rs := [7]) (by kernel_rfl) (by simp) ?_
  refine AllReadyH.cons (o := ⟨some 16, _, _, _, _, _⟩) rfl (fun K hK => ?_) AllReadyH.nil
  go_simp
  refine (len_any (TH.out _ hHeld)).mono ?_
  rw [← HRL.out]
  rintro r v4 ⟨rfl, nq, rfl⟩
  have K4 := below_drewN hHeld nq
  go_simp
  refine hK.out _ _ (K4) (fun hHeld => ?_)
  clear hK K
  try simp only [Act.put, List.setIfInBounds_toArray, List.set_cons_zero, List.set_cons_succ]
  refine wpAnyH_take (i := 10) (oi := ⟨some 19, _, _, _, _, _⟩) (v := ?_) rfl (by kernel_rfl) (by kernel_rfl) (by kernel_rfl) (fun _ _ _ h => h) (Or.inl ⟨by rfl, ?_⟩) (by assumption) ?_
  rotate_left
  · intro w hSw; go_simp; first | done | with_reducible rfl
  try simp only [Act.put, List.setIfInBounds_toArray, List.set_cons_zero, List.set_cons_succ]
  refine wpAnyH_take (i := 11) (oi := ⟨some 20, _, _, _, _, _⟩) (v := ?_) rfl (by kernel_rfl) (by kernel_rfl) (by kernel_rfl) (fun _ _ _ h => h) (Or.inl ⟨by rfl, ?_⟩) (by assumption) ?_
  rotate_left
  · intro w hSw; go_simp; first | done | with_reducible rfl
  try simp only [Act.put, List.setIfInBounds_toArray, List.set_cons_zero, List.set_cons_succ]
  refine wpAnyH_take (i := 12) (oi := ⟨some 21, _, _, _, _, _⟩) (v := ?_) rfl (by kernel_rfl) (by kernel_rfl) (by kernel_rfl) (fun _ _ _ h => h) (Or.inl ⟨by rfl, ?_⟩) (by assumption) ?_
  rotate_left
  · intro w hSw; go_simp; first | done | with_reducible rfl
  try simp only [Act.put, List.setIfInBounds_toArray, List.set_cons_zero, List.set_cons_succ]
  refine wpAnyH_take (i := 13) (oi := ⟨some 22, _, _, _, _, _⟩) (v := ?_) rfl (by kernel_rfl) (by kernel_rfl) (by kernel_rfl) (fun _ _ _ h => h) (Or.inl ⟨by rfl, ?_⟩) (by assumption) ?_
  rotate_left
  · intro w hSw; go_simp; first | done | with_reducible rfl
  try simp only [Act.put, List.setIfInBounds_toArray, List.set_cons_zero, List.set_cons_succ]
  refine wpAnyH_take (i := 15) (oi := ⟨some 24, _, _, _, _, _⟩) (v := ?_) rfl (by kernel_rfl) (by kernel_rfl) (by kernel_rfl) (fun _ _ _ h => h) (Or.inl ⟨by rfl, ?_⟩) (by assumption) ?_
  rotate_left
  · intro w hSw; go_simp; first | done | with_reducible rfl
  try simp only [Act.put, List.setIfInBounds_toArray, List.set_cons_zero, List.set_cons_succ]
  refine wpAnyH_take (i := 16) (oi := ⟨some 25, _, _, _, _, _⟩) (v := ?_) rfl (by kernel_rfl) (by kernel_rfl) (by kernel_rfl) (fun _ _ _ h => h) (Or.inl ⟨by rfl, ?_⟩) (by assumption) ?_
  rotate_left
  · intro w hSw; go_simp; first | done | with_reducible rfl
  try simp only [Act.put, List.setIfInBounds_toArray, List.set_cons_zero, List.set_cons_succ]
  refine wpAnyH_take (i := 17) (oi := ⟨some 26, _, _, _, _, _⟩) (v := ?_) rfl (by kernel_rfl) (by kernel_rfl) (by kernel_rfl) (fun _ _ _ h => h) (Or.inl ⟨by rfl, ?_⟩) (by assumption) ?_
  rotate_left
  · intro w hSw; go_simp; first | done | with_reducible rfl
  try simp only [Act.put, List.setIfInBounds_toArray, List.set_cons_zero, List.set_cons_succ]
  refine wpAnyH_ready (rs := [14]) (by kernel_rfl) (by simp) ?_
  refine AllReadyH.cons (o := ⟨some 23, _, _, _, _, _⟩) rfl (fun K hK => ?_) AllReadyH.nil
  go_simp
  refine (made_any (TH.out _ hHeld)).mono ?_
  rintro r v5 ⟨rfl, rfl⟩
  have K5 := hHeld
  go_simp
  refine hK.out _ _ (K5) (fun hHeld => ?_)
  clear hK K
  try simp only [Act.put, List.setIfInBounds_toArray, List.set_cons_zero, List.set_cons_succ]
  refine wpAnyH_take (i := 18) (oi := ⟨some 27, _, _, _, _, _⟩) (v := ?_) rfl (by kernel_rfl) (by kernel_rfl) (by kernel_rfl) (fun _ _ _ h => h) (Or.inl ⟨by rfl, ?_⟩) (by assumption) ?_
  rotate_left
  · intro w hSw; go_simp; first | done | with_reducible rfl
  try simp only [Act.put, List.setIfInBounds_toArray, List.set_cons_zero, List.set_cons_succ]
  refine wpAnyH_take (i := 19) (oi := ⟨some 28, _, _, _, _, _⟩) (v := ?_) rfl (by kernel_rfl) (by kernel_rfl) (by kernel_rfl) (fun _ _ _ h => h) (Or.inl ⟨by rfl, ?_⟩) (by assumption) ?_
  rotate_left
  · intro w hSw; go_simp; first | done | with_reducible rfl
  try simp only [Act.put, List.setIfInBounds_toArray, List.set_cons_zero, List.set_cons_succ]
  refine wpAnyH_done (by kernel_rfl) ?_ _
  refine NoPanic.normal ?_
  obtain ⟨v, hv⟩ : ∃ v, v = v3.drewN nq := ⟨_, rfl⟩
  rw [← hv] at hHeld
  rw [← hv]
  have HV := Lib.hid hHeld
  have hzv : w1.heap.size ≤ v.heap.size := hHeld.size
  have HMv := Lib.hid (HMR.out.below hHeld (Nat.le_refl _))
  have HBv := Lib.hid (HB1.out.trans (hHeld.mono (by omega)))
  have HHw : Hid (∀ W, Below w0.heap.size w0 W → Are F W g m G s) := fun W hW => HH.out.below hW (Nat.le_refl _)
  have HGT : Hid (∀ x ∈ R, hasB s (x.1 : Int) (x.2 : Int) = true ∧ x.2 ≤ 1000000000) := fun x hx => by
    rw [HR.out] at hx
    have h1 := refs_has hx
    obtain ⟨_, h2⟩ := has_spec h1
    have := genAt_le HI.out (x.1 : Int)
    exact ⟨h1, by omega⟩
  have HW1 : Hid (Below w0.heap.size w0 v) := HB01.out.trans (hHeld.mono (by omega))
  clear hv tc0 tc1 tc2 tc3 D1 hHeld
  go_wp2_with fail
  go_loopw [31] (fun i wr => ∃ (k : Nat) (ls : List (Nat × Nat)), k ≤ R.length ∧ i = .int .i64 (k : Int) ∧ Hid (ls.length = R.length) ∧ Hid (∀ j, k ≤ j → ls[j]? = R[j]?) ∧ Mine w0.heap.size 2 wr A R.length q (rfL ls) ∧ Below w0.heap.size w0 wr) (fun i _ => R.length - (intOf i).toNat)
  case atStart => exact ⟨0, R, Nat.zero_le _, rfl, rfl, fun _ _ => rfl, HMv.out, HW1.out⟩
  case round =>
    obtain ⟨k, ls, hk, rfl, hln, hjs, hm, hb⟩ := hrel
    have HMr := Lib.hid hm; have HBr := Lib.hid hb
    have hzr : w0.heap.size ≤ wr.heap.size := hb.size
    have HAr := Lib.hid (HHw.out _ hb)
    clear hm hb
    by_cases hlt : k < R.length
    · have hll : k < ls.length := by rw [hln.out]; exact hlt
      have hle1 : ls[k] = R[k] := by
        have := hjs.out k (Nat.le_refl _)
        rw [List.getElem?_eq_getElem hll, List.getElem?_eq_getElem hlt] at this
        injection this
      obtain ⟨hx1, hx2⟩ := HGT.out _ (List.getElem_mem hlt)
      obtain ⟨f0, f1⟩ := rfL_get ls k hll
      rw [hle1] at f0 f1
      obtain ⟨gA, oA, rfl, lA1, lA2⟩ := mine_place HMr.out (by rw [rfL_len]; omega)
      obtain ⟨a0, af0⟩ := mine_cell HMr.out f0
      obtain ⟨a1, af1⟩ := mine_cell HMr.out f1
      rw [← Nat.add_assoc] at a1 af1
      obtain ⟨⟨xn, xg⟩, hx⟩ : ∃ x, x = R[k] := ⟨_, rfl⟩
      rw [← hx] at a0 a1 hx1 hx2
      simp only at a0 a1 hx1 hx2
      have HX := Lib.hid hx; have HE := Lib.hid hle1; have HL := Lib.hid hll
      have HHS := Lib.hid (has_any HAr.out (xn : Int) (xg : Int))
      rw [hx1] at HHS
      have i1 : (k : Int) < (R.length : Int) := by omega
      clear f0 f1 hx hx1 hle1
      unfold boolTo at HHS
      go_wp2_with fail
      refine HHS.out.mono ?_
      rintro r wh ⟨rfl, hbh⟩
      have hzh := hbh.size
      have b0 : wh.cell? ⟨gA, oA + k * 2, none⟩ = some (.int .i64 (xn : Int)) := by rw [hbh.cell (p := ⟨gA, oA + k * 2, none⟩) lA2]; exact a0
      have b1 : wh.cell? ⟨gA, oA + k * 2 + 1, none⟩ = some (.int .i64 (xg : Int)) := by rw [hbh.cell (p := ⟨gA, oA + k * 2 + 1, none⟩) lA2]; exact a1
      have bf1 : wh.frozen? ⟨gA, oA + k * 2 + 1, none⟩ = false := by rw [hbh.frozen (p := ⟨gA, oA + k * 2 + 1, none⟩) lA2]; exact af1
      have HMh := Lib.hid (HMr.out.below hbh (Nat.le_refl _))
      have HBh := Lib.hid (HBr.out.trans (hbh.mono hzr))
      clear a0 a1 af0 af1 hbh HHS
      go_wp2_with fail
      go_roundw
      case rel =>
        refine ⟨k + 1, ls.set k (xn, xg + 1), by omega, by go_num, by show _ = _; rw [List.length_set]; exact hln.out, fun j hj => ?_, ?_, HBh.out.setCell lA1 _⟩
        · rw [List.getElem?_set_ne (by omega)]; exact hjs.out j (by omega)
        · have h1 := rfL_set ls k HL.out (xg + 1)
          have h2 : ls[k]'HL.out = (xn, xg) := by rw [HE.out, HX.out]
          rw [h2] at h1
          have h3 := mine_put HMh.out (k * 2 + 1) (.int .i64 ((xg + 1 : Nat) : Int)) (by rw [rfL_len]; have := HL.out; omega) h1
          rw [← Nat.add_assoc] at h3
          exact h3
      case measure => simp [intOf]; omega
    · obtain rfl : k = R.length := by omega
      have hnn : ¬ (R.length : Int) < R.length := by omega
      go_wp2_with fail
      go_ret
      exact ⟨rfl, HB0.out.trans (HBr.out.mono (by omega))⟩
end Go.Proofs.Ytighehonkookhaa.Np
