/- Proves what the specification's Next and Keys return. Conditions: as each theorem names them. -/
import Derived.Test.YtlmljhnogmfcfaaGreatRg
import Derived.Test.YtlmljhnogmfcfaaGreatEl
import Derived.Deep.RegionHeld3
namespace Go.Proofs.YtlmljhnogmfcfaaGreat.Ef
open Go.RowKit Ap Mi Nw Ea Eb Ec Ed

theorem rs_pre {w : World} {sz : Nat} {A : Option Addr} {n c : Nat} {xs : List Value} (h : Rs w sz A n c xs) {k : Nat} (hk : k ≤ n) : Rs w sz A k c (xs.take (k * sz)) := by
 have hm : k * sz ≤ n * sz := Nat.mul_le_mul_right _ hk
 have hl := h.len
 refine ⟨fun h0 => ?_, by rw [List.length_take]; omega, Nat.le_trans hk h.le, h.max, h.non⟩
 rw [List.length_take] at h0
 obtain ⟨b, o, e, lb, hc⟩ := h.rd (by omega)
 exact ⟨b, o, e, lb, fun j hj => by rw [List.length_take] at hj; rw [List.getElem_take]; exact hc j (by omega)⟩
theorem rs_cut {w : World} {sz : Nat} {A : Option Addr} {n c : Nat} {xs : List Value} (h : Rs w sz A n c xs) {k : Nat} (hk : k ≤ n) : Rs w sz (cutM A sz k c) (n - k) (c - k) (xs.drop (k * sz)) := by
 have hle := h.le
 have hl := h.len
 refine ⟨fun h0 => ?_, by rw [List.length_drop, hl, Nat.sub_mul], by omega, by have := h.max; omega, fun e => ?_⟩
 ·rw [List.length_drop] at h0
  obtain ⟨b, o, e, lb, hc⟩ := h.rd (by omega)
  subst e
  have hkn : k < n := by
   rcases Nat.lt_or_ge k n with h1 | h1
   ·exact h1
   ·have := Nat.mul_le_mul_right sz h1; omega
  refine ⟨b, o + k * sz, by unfold cutM; rw [if_neg (by omega)]; simp [Nw.add_lit], lb, fun j hj => ?_⟩
  rw [List.length_drop] at hj
  rw [List.getElem_drop, Nat.add_assoc]
  exact hc (k * sz + j) (by omega)
 ·unfold cutM at e
  split at e
  ·omega
  ·rw [Option.map_eq_none_iff] at e; rw [h.non e]; omega
theorem cut_lit (b o K c : Nat) : cutM (some ⟨b, o, none⟩) 6 K c = if c = K then some ⟨b, o, none⟩ else some ⟨b, o + K * 6, none⟩ := by
 unfold cutM
 split
 ·rfl
 ·simp [Nw.add_lit]
theorem only_row {w w' : World} {A : Option Addr} {F : Nat → Prop} (h : w.grownBy w' (A.map (·.block))) (hA : ∀ a, A = some a → F a.block) : Only F w w' :=
 Only.of_grown h (fun k e => by
  cases A with
  | none => cases e
  | some a => simp at e; subst e; exact hA a rfl)
theorem pre_src {w : World} {A : Option Addr} {c : Nat} {l : List Em} (h : Rs w 6 A l.length c (emL l)) {k : Nat} (hk : k ≤ l.length) : Src Tryz.prog 6 30 (.slice A k c) k (emL (l.take k)) w := by
 rw [← emL_take]
 exact (rs_pre h hk).src Tryz.underlying30 (by omega) (by rw [emL_take]; exact emL_one' _)
theorem cut_src {w : World} {A : Option Addr} {c : Nat} {l : List Em} (h : Rs w 6 A l.length c (emL l)) {k : Nat} (hk : k ≤ l.length) : Src Tryz.prog 6 30 (.slice (cutM A 6 k c) (l.length - k) (c - k)) (l.length - k) (emL (l.drop k)) w := by
 rw [← emL_drop]
 exact (rs_cut h hk).src Tryz.underlying30 (by omega) (by rw [emL_drop]; exact emL_one' _)
def rowPost (w : World) (l : List Em) : Ending → World → Prop := fun q w' => ∃ A c, q = .returned (.slice A l.length c) ∧ Mine w.heap.size 6 w' A l.length c (emL l) ∧ Below w.heap.size w w'
set_option maxRecDepth 100000 in
theorem out_any (A : Option Addr) (c : Nat) (l : List Em) (w : World) (hl : Rs w 6 A l.length c (emL l)) (hn : l.length ≤ 1000) {i : Nat} (hi : i < l.length) :
  Calls Tryz.prog 58 #[.slice A l.length c, .int .i64 (i : Int)] w (rowPost w (wo l i)) := by
 have HS := Lib.hid hl
 have hle := Rs.le hl
 have hcm := Rs.max hl
 unfold maxLen at hcm
 obtain ⟨g0, _⟩ := emL_get l i hi
 obtain ⟨b, o, rfl, lb, _⟩ := hl.rd.at_ g0
 have S3 := Lib.hid (pre_src (hl.below ((Below.refl w.heap.size w).drew) (Nat.le_refl _)) (k := i) (by omega))
 clear g0 hl
 have kc : (i : Int) ≤ (c : Int) := by omega
 have kI : (i : Int) ≤ (l.length : Int) := by omega
 have k0 : (0 : Int) ≤ (i : Int) := by omega
 have kc1 : (i : Int) + 1 ≤ (c : Int) := by omega
 have kI1 : (i : Int) + 1 ≤ (l.length : Int) := by omega
 have k01 : (0 : Int) ≤ (i : Int) + 1 := by omega
 have kself : (i : Int) ≤ (i : Int) + 1 := by omega
 have hwr : IntKind.i64.wrap ((i : Int) + 1) = (i : Int) + 1 := by rw [IntKind.wrap_i64]; omega
 have htn : ((i : Int) + 1).toNat = i + 1 := by omega
 unfold rowPost
 by_cases hcK : c = i + 1
 ·have hcS := hcK.symm
  subst hcS
  have S8 : Hid (∀ v, Below w.heap.size w v → Src Tryz.prog 6 30 (.slice (some ⟨b, o, none⟩) 0 ((i + 1) - (i + 1))) 0 (emL (l.drop (i + 1))) v) := fun v hv => by
   have := cut_src (HS.out.below hv (Nat.le_refl _)) (k := i + 1) (by omega)
   rw [cut_lit, if_pos rfl, show l.length - (i + 1) = 0 from by omega] at this
   exact this
  rw [show i + 1 - (i + 1) = 0 from by omega] at S8
  go_enter Tryz.func58, Tryz.ntmps58
  go_wp2_with fail
  refine wp_region_held_drew (S := fun _ => True) (by kernel_rfl) (trivial) (fun hHeld => ?_)
  refine Rg.th 0 (some 5) (v := ?_) rfl (by kernel_rfl) (fun _ _ _ h => h) (by rfl) (by assumption) ?_ ?_
  rotate_left
  ·intro w hSw; go_simp; first | done | with_reducible rfl
  try simp only [Ap.sc]
  refine Rg.th 1 (some 6) (v := ?_) rfl (by kernel_rfl) (fun _ _ _ h => h) (by rfl) (by assumption) ?_ ?_
  rotate_left
  ·intro w hSw; go_simp; first | done | with_reducible rfl
  try simp only [Ap.sc]
  refine Rg.th 2 (some 7) (v := ?_) rfl (by kernel_rfl) (fun _ _ _ h => h) (by rfl) (by assumption) ?_ ?_
  rotate_left
  ·intro w hSw; go_simp; first | done | with_reducible rfl
  try simp only [Ap.sc]
  refine Rg.th 4 (some 9) (v := ?_) rfl (by kernel_rfl) (fun _ _ _ h => h) (by rfl) (by assumption) ?_ ?_
  rotate_left
  ·intro w hSw; go_simp; first | done | with_reducible rfl
  try simp only [Ap.sc]
  refine Rg.th 5 (some 10) (v := ?_) rfl (by kernel_rfl) (fun _ _ _ h => h) (by rfl) (by assumption) ?_ ?_
  rotate_left
  ·intro w hSw; go_simp; first | done | with_reducible rfl
  try simp only [Ap.sc]
  refine Rg.th 6 (some 11) (v := ?_) rfl (by kernel_rfl) (fun _ _ _ h => h) (by rfl) (by assumption) ?_ ?_
  rotate_left
  ·intro w hSw; go_simp; first | done | with_reducible rfl
  try simp only [Ap.sc]
  refine Rg.th 7 (some 12) (v := ?_) rfl (by kernel_rfl) (fun _ _ _ h => h) (by rfl) (by assumption) ?_ ?_
  rotate_left
  ·intro w hSw; go_simp; first | done | with_reducible rfl
  try simp only [Ap.sc]
  refine wpAnyH_ready (rs := [3]) (by kernel_rfl) (by simp) ?_
  refine AllReadyH.cons (o := ⟨some 8, _, _, _, _, _⟩) rfl (fun K hK => ?_) AllReadyH.nil
  refine step_mine (by kernel_rfl) _ _ elE _ rfl rfl (Mine.nil w.heap.size 6 w.drew) _ rfl i _ S3.out (by omega) (by omega) (Nat.le_refl _) ?_
  intro A3 c3 w3 m3 g3 q3
  have B3 : Hid (Below w.heap.size w w3) := ((Below.refl w.heap.size w).drew).trans ((only_row (A := none) (F := fun j => w.heap.size ≤ j) g3 (fun b hb => by cases hb)).below (fun _ h => h) (Nat.le_refl _))
  have M3 : Hid (Mine w.heap.size 6 w3 A3 i c3 (emL (l.take i))) := by
   show Mine _ _ _ _ _ _ _
   rw [Nat.zero_add, List.nil_append] at m3; exact m3
  have S9 := Lib.hid (S8.out _ B3.out)
  have hz3 := B3.out.size
  try simp only [Nat.zero_add]
  clear m3 g3 q3
  refine hK.out _ _ (trivial) (fun hHeld => ?_)
  clear hK K
  try simp only [Ap.sc]
  refine wpAnyH_ready (rs := [8]) (by kernel_rfl) (by simp) ?_
  refine AllReadyH.cons (o := ⟨some 13, _, _, _, _, _⟩) rfl (fun K hK => ?_) AllReadyH.nil
  refine step_mine (by kernel_rfl) _ _ elE _ rfl rfl M3.out _ rfl 0 _ S9.out (by omega) (by omega) hz3 ?_
  intro A6 c6 w6 m6 g6 q6
  have B6 : Hid (Below w.heap.size w w6) := B3.out.trans ((only_row (F := fun j => w.heap.size ≤ j) g6 (fun b hb => (M3.out.base hb).1)).below (fun _ h => h) hz3)
  have el : i + 0 = (wo l i).length := by unfold wo; rw [List.length_append, List.length_take, List.length_drop]; omega
  have M6 : Hid (Mine w.heap.size 6 w6 A6 (wo l i).length c6 (emL (wo l i))) := by
   show Mine _ _ _ _ _ _ _
   rw [← el]; unfold wo; rw [emL_append]; exact m6
  have HEL := Lib.hid el
  clear m6 g6 q6 el
  refine hK.out _ _ (trivial) (fun hHeld => ?_)
  clear hK K
  try simp only [Ap.sc]
  refine Rg.th 9 (some 4) (v := ?_) rfl (by kernel_rfl) (fun _ _ _ h => h) (by rfl) (by assumption) ?_ ?_
  rotate_left
  ·intro w hSw; go_simp; first | done | with_reducible rfl
  try simp only [Ap.sc]
  refine wpAnyH_done (by kernel_rfl) ?_ _
  go_wp2_with fail
  go_ret
  exact ⟨A6, c6, by rw [← HEL.out]; rfl, M6.out, B6.out⟩
 ·have S8 : Hid (∀ v, Below w.heap.size w v → Src Tryz.prog 6 30 (.slice (some ⟨b, o + (i + 1) * 6, none⟩) (l.length - (i + 1)) (c - (i + 1))) (l.length - (i + 1)) (emL (l.drop (i + 1))) v) := fun v hv => by
   have := cut_src (HS.out.below hv (Nat.le_refl _)) (k := i + 1) (by omega)
   rw [cut_lit, if_neg hcK] at this
   exact this
  go_enter Tryz.func58, Tryz.ntmps58
  go_wp2_with fail
  refine wp_region_held_drew (S := fun _ => True) (by kernel_rfl) (trivial) (fun hHeld => ?_)
  refine Rg.th 0 (some 5) (v := ?_) rfl (by kernel_rfl) (fun _ _ _ h => h) (by rfl) (by assumption) ?_ ?_
  rotate_left
  ·intro w hSw; go_simp; first | done | with_reducible rfl
  try simp only [Ap.sc]
  refine Rg.th 1 (some 6) (v := ?_) rfl (by kernel_rfl) (fun _ _ _ h => h) (by rfl) (by assumption) ?_ ?_
  rotate_left
  ·intro w hSw; go_simp; first | done | with_reducible rfl
  try simp only [Ap.sc]
  refine Rg.th 2 (some 7) (v := ?_) rfl (by kernel_rfl) (fun _ _ _ h => h) (by rfl) (by assumption) ?_ ?_
  rotate_left
  ·intro w hSw; go_simp; first | done | with_reducible rfl
  try simp only [Ap.sc]
  refine Rg.th 4 (some 9) (v := ?_) rfl (by kernel_rfl) (fun _ _ _ h => h) (by rfl) (by assumption) ?_ ?_
  rotate_left
  ·intro w hSw; go_simp; first | done | with_reducible rfl
  try simp only [Ap.sc]
  refine Rg.th 5 (some 10) (v := ?_) rfl (by kernel_rfl) (fun _ _ _ h => h) (by rfl) (by assumption) ?_ ?_
  rotate_left
  ·intro w hSw; go_simp; first | done | with_reducible rfl
  try simp only [Ap.sc]
  refine Rg.th 6 (some 11) (v := ?_) rfl (by kernel_rfl) (fun _ _ _ h => h) (by rfl) (by assumption) ?_ ?_
  rotate_left
  ·intro w hSw; go_simp; first | done | with_reducible rfl
  try simp only [Ap.sc]
  refine Rg.th 7 (some 12) (v := ?_) rfl (by kernel_rfl) (fun _ _ _ h => h) (by rfl) (by assumption) ?_ ?_
  rotate_left
  ·intro w hSw; go_simp; first | done | with_reducible rfl
  try simp only [Ap.sc]
  refine wpAnyH_ready (rs := [3]) (by kernel_rfl) (by simp) ?_
  refine AllReadyH.cons (o := ⟨some 8, _, _, _, _, _⟩) rfl (fun K hK => ?_) AllReadyH.nil
  refine step_mine (by kernel_rfl) _ _ elE _ rfl rfl (Mine.nil w.heap.size 6 w.drew) _ rfl i _ S3.out (by omega) (by omega) (Nat.le_refl _) ?_
  intro A3 c3 w3 m3 g3 q3
  have B3 : Hid (Below w.heap.size w w3) := ((Below.refl w.heap.size w).drew).trans ((only_row (A := none) (F := fun j => w.heap.size ≤ j) g3 (fun b hb => by cases hb)).below (fun _ h => h) (Nat.le_refl _))
  have M3 : Hid (Mine w.heap.size 6 w3 A3 i c3 (emL (l.take i))) := by
   show Mine _ _ _ _ _ _ _
   rw [Nat.zero_add, List.nil_append] at m3; exact m3
  have S9 := Lib.hid (S8.out _ B3.out)
  have hz3 := B3.out.size
  try simp only [Nat.zero_add]
  clear m3 g3 q3
  refine hK.out _ _ (trivial) (fun hHeld => ?_)
  clear hK K
  try simp only [Ap.sc]
  refine wpAnyH_ready (rs := [8]) (by kernel_rfl) (by simp) ?_
  refine AllReadyH.cons (o := ⟨some 13, _, _, _, _, _⟩) rfl (fun K hK => ?_) AllReadyH.nil
  refine step_mine (by kernel_rfl) _ _ elE _ rfl rfl M3.out _ rfl (l.length - (i + 1)) _ S9.out (by omega) (by omega) hz3 ?_
  intro A6 c6 w6 m6 g6 q6
  have B6 : Hid (Below w.heap.size w w6) := B3.out.trans ((only_row (F := fun j => w.heap.size ≤ j) g6 (fun b hb => (M3.out.base hb).1)).below (fun _ h => h) hz3)
  have el : i + (l.length - (i + 1)) = (wo l i).length := by unfold wo; rw [List.length_append, List.length_take, List.length_drop]; omega
  have M6 : Hid (Mine w.heap.size 6 w6 A6 (wo l i).length c6 (emL (wo l i))) := by
   show Mine _ _ _ _ _ _ _
   rw [← el]; unfold wo; rw [emL_append]; exact m6
  have HEL := Lib.hid el
  clear m6 g6 q6 el
  refine hK.out _ _ (trivial) (fun hHeld => ?_)
  clear hK K
  try simp only [Ap.sc]
  refine Rg.th 9 (some 4) (v := ?_) rfl (by kernel_rfl) (fun _ _ _ h => h) (by rfl) (by assumption) ?_ ?_
  rotate_left
  ·intro w hSw; go_simp; first | done | with_reducible rfl
  try simp only [Ap.sc]
  refine wpAnyH_done (by kernel_rfl) ?_ _
  go_wp2_with fail
  go_ret
  exact ⟨A6, c6, by rw [← HEL.out]; rfl, M6.out, B6.out⟩
def mV (b e : Int) (A : Option Addr) (n c : Nat) : Value := .agg #[.int .i64 b, .int .i64 e, .slice A n c]
def mA (b e : Int) (A : Option Addr) (n c : Nat) : Array Value := #[.int .i64 b, .int .i64 e, .slice A n c]
def lookR (l : List Em) (k : ByteArray) : Int := if keyOk k then (match fnd Em.e l k with | some _ => 0 | none => 9) else 2
def lookI (l : List Em) (k : ByteArray) : Int := if keyOk k then (match fnd Em.e l k with | some i => (i : Int) | none => 0) else 0
theorem look_cases (l : List Em) (k : ByteArray) : (lookR l k = 2 ∧ lookI l k = 0 ∧ ¬ keyOk k) ∨ (lookR l k = 9 ∧ lookI l k = 0 ∧ keyOk k ∧ fnd Em.e l k = none) ∨ (∃ i : Nat, lookR l k = 0 ∧ lookI l k = (i : Int) ∧ keyOk k ∧ fnd Em.e l k = some i) := by
 unfold lookR lookI
 by_cases hk : keyOk k
 ·rw [if_pos hk, if_pos hk]
  cases h : fnd Em.e l k with
  | none => exact Or.inr (Or.inl ⟨rfl, rfl, hk, rfl⟩)
  | some i => exact Or.inr (Or.inr ⟨i, rfl, rfl, hk, rfl⟩)
 ·rw [if_neg hk, if_neg hk]
  exact Or.inl ⟨rfl, rfl, hk⟩
section
variable {G : Nat → Prop} {A : Option Addr} {c : Nat} {l : List Em} {w : World}
set_option maxRecDepth 100000 in
theorem look_any (b e : Int) (k : ByteArray) (hl : RL G w A c l) (hn : l.length ≤ 1000) :
  Calls Tryz.prog 84 #[mV b e A l.length c, .string k] w (vPost w (.tuple #[.int .i64 (lookI l k), .int .i64 (lookR l k)])) := by
 obtain ⟨v0, hv0⟩ : ∃ v0, v0 = w.alloc (.cells (mA b e A l.length c) 32) := ⟨_, rfl⟩
 have HB0 : Hid (Below w.heap.size w v0) := by show Below _ _ _; rw [hv0]; exact bnew _ _
 have HK0 : Hid (Blk v0 w.heap.size (mA b e A l.length c) 32) := by show Blk _ _ _ _; rw [hv0]; exact Blk.new w _ _
 have HKY := Lib.hid (key_any k v0)
 have HF := Lib.hid (find_any A c l k v0 (hl.below HB0.out (Nat.le_refl _)) hn)
 have HC := Lib.hid (look_cases l k)
 unfold mA at hv0 HK0
 obtain ⟨x0, x1, x2, _⟩ := HK0.out.three
 have lg := HK0.out.lt
 unfold vPost mV
 clear hl
 obtain ⟨I, hI⟩ : ∃ I, I = lookI l k := ⟨_, rfl⟩
 obtain ⟨E, hE⟩ : ∃ E, E = lookR l k := ⟨_, rfl⟩
 rw [← hI, ← hE] at HC ⊢
 clear hI hE
 rcases HC.out with ⟨hE, hI, hk⟩ | ⟨hE, hI, hk, hf⟩ | ⟨i, hE, hI, hk, hf⟩
 ·clear HC
  rw [decide_eq_false hk] at HKY
  subst hE hI
  clear hk
  go_enter Tryz.func84, Tryz.ntmps84
  go_upto_region 1 with fail
  rw [← hv0]
  clear hv0
  go_wp2_with fail
  refine HKY.out.mono ?_
  rintro q w1 ⟨rfl, rfl⟩
  go_wp2_with fail
  go_ret2
  exact ⟨rfl, HB0.out⟩
 ·clear HC
  rw [decide_eq_true hk] at HKY
  rw [hf] at HF
  unfold fndI at HF
  subst hE hI
  clear hk hf
  go_enter Tryz.func84, Tryz.ntmps84
  go_upto_region 1 with fail
  rw [← hv0]
  clear hv0
  go_wp2_with fail
  refine HKY.out.mono ?_
  rintro q w1 ⟨rfl, rfl⟩
  go_wp2_with fail
  refine HF.out.mono ?_
  rintro q w2 ⟨rfl, rfl⟩
  go_wp2_with fail
  go_ret2
  exact ⟨rfl, HB0.out⟩
 ·clear HC
  rw [decide_eq_true hk] at HKY
  rw [hf] at HF
  unfold fndI at HF
  simp only at HF
  have i0 : (0 : Int) ≤ (i : Int) := by omega
  subst hE hI
  clear hk hf
  go_enter Tryz.func84, Tryz.ntmps84
  go_upto_region 1 with fail
  rw [← hv0]
  clear hv0
  go_wp2_with fail
  refine HKY.out.mono ?_
  rintro q w1 ⟨rfl, rfl⟩
  go_wp2_with fail
  refine HF.out.mono ?_
  rintro q w2 ⟨rfl, rfl⟩
  go_wp2_with fail
  go_ret2
  exact ⟨rfl, HB0.out⟩
def put3 (w : World) (r : Nat) (a b c : Value) : World := ((w.setCell ⟨r, 0, none⟩ a).setCell ⟨r, 1, none⟩ b).setCell ⟨r, 2, none⟩ c
theorem put3_blk {w : World} {r : Nat} {p q x : Value} {t : TypeId} (h : Blk w r #[p, q, x] t) (a b c : Value) : Blk (put3 w r a b c) r #[a, b, c] t := ((h.set 0 a).set 1 b).set 2 c
theorem put3_only (w : World) (r : Nat) (a b c : Value) : Only (fun j => j = r) w (put3 w r a b c) :=
 (((Only.refl (fun j => j = r) w).put (ad := ⟨r, 0, none⟩) rfl a).put (ad := ⟨r, 1, none⟩) rfl b).put (ad := ⟨r, 2, none⟩) rfl c
def gotE (l : List Em) (k : ByteArray) : Em := if lookR l k = 0 then l.getD (lookI l k).toNat zeroM else zeroM
set_option maxRecDepth 100000 in
theorem find_m (b e : Int) (k : ByteArray) (hl : RL G w A c l) (hn : l.length ≤ 1000) :
  Calls Tryz.prog 51 #[mV b e A l.length c, .string k] w (vPost w (.tuple #[emV (gotE l k), .int .i64 (lookR l k)])) := by
 obtain ⟨v0, hv0⟩ : ∃ v0, v0 = (w.alloc (.cells (mA b e A l.length c) 32)).alloc (.cells zA 42) := ⟨_, rfl⟩
 have HB0 : Hid (Below w.heap.size w v0) := by show Below _ _ _; rw [hv0]; exact (bnew _ _).alloc (by simp) _
 have HK0 : Hid (Blk v0 w.heap.size (mA b e A l.length c) 32) := by show Blk _ _ _ _; rw [hv0]; exact (Blk.new w _ _).below (bnew _ _) (by simp)
 have HR0 : Hid (Blk v0 (w.heap.size + 1) zA 42) := by
  show Blk _ _ _ _; rw [hv0]
  have := Blk.new (w.alloc (.cells (mA b e A l.length c) 32)) zA 42
  simpa using this
 have HLK := Lib.hid (look_any b e k (hl.below HB0.out (Nat.le_refl _)) hn)
 have HL := Lib.hid hl
 have HC := Lib.hid (look_cases l k)
 have HGO : Hid (gotE l k = if lookR l k = 0 then l.getD (lookI l k).toNat zeroM else zeroM) := rfl
 have hcm := Rs.max hl.r
 unfold maxLen at hcm
 unfold mA zA at hv0
 unfold mA at HK0
 obtain ⟨x0, x1, x2, _⟩ := HK0.out.three
 have lg := HK0.out.lt
 unfold vPost mV at HLK ⊢
 clear hl
 obtain ⟨I, hI⟩ : ∃ I, I = lookI l k := ⟨_, rfl⟩
 obtain ⟨E, hE⟩ : ∃ E, E = lookR l k := ⟨_, rfl⟩
 obtain ⟨X, hX⟩ : ∃ X, X = gotE l k := ⟨_, rfl⟩
 rw [← hI, ← hE] at HC HLK HGO
 rw [← hE]
 rw [← hX] at HGO ⊢
 clear hI hE hX
 rcases HC.out with ⟨hE, hI, hk⟩ | ⟨hE, hI, hk, hf⟩ | ⟨i, hE, hI, hk, hf⟩
 ·clear HC
  subst hE hI
  have HX : Hid (X = zeroM) := by show _ = _; rw [HGO.out]; simp
  clear hk
  go_enter Tryz.func51, Tryz.ntmps51
  go_upto_region 1 with fail
  rw [← hv0]
  clear hv0
  go_wp2_with fail
  refine HLK.out.mono ?_
  rintro q w1 ⟨rfl, hb⟩
  have HB1 := Lib.hid (HB0.out.trans (hb.mono HB0.out.size))
  have HK1 := Lib.hid (HK0.out.below hb HK0.out.lt)
  have HR1 := Lib.hid (HR0.out.below hb HR0.out.lt)
  clear hb x0 x1 x2 lg
  obtain ⟨x0, x1, x2, _⟩ := HK1.out.three
  have lg := HK1.out.lt
  have HRZ := HR1.out
  unfold zA at HRZ
  obtain ⟨r0, r1, r2, r3, r4, r5, rf⟩ := six HRZ
  have rf0 := rf 0; have rf1 := rf 1; have rf2 := rf 2; have rf3 := rf 3; have rf4 := rf 4; have rf5 := rf 5
  have lr := HRZ.lt
  have HRR := Lib.hid HRZ
  clear rf HRZ
  go_wp2_with fail
  obtain ⟨v9, hv9⟩ : ∃ v9, v9 = put6 w1 (w.heap.size + 1) (.string ⟨#[]⟩) (.slice none 0 0) (.slice none 0 0) (.int .u64 0) (.int .u64 0) (.int .u64 0) := ⟨_, rfl⟩
  have HP9 : Hid (Only (fun j => j = w.heap.size + 1) w1 v9) := by show Only _ _ _; rw [hv9]; exact put6_only _ _ _ _ _ _ _ _
  have HR9 : Hid (Blk v9 (w.heap.size + 1) #[.string ⟨#[]⟩, .slice none 0 0, .slice none 0 0, .int .u64 0, .int .u64 0, .int .u64 0] 42) := by show Blk _ _ _ _; rw [hv9]; exact put6_blk HRR.out _ _ _ _ _ _
  unfold put6 at hv9
  rw [← hv9]
  obtain ⟨t0, t1, t2, t3, t4, t5, _⟩ := six HR9.out
  exact bodyPost_ret (v := .tuple #[.agg #[.string ⟨#[]⟩, .slice none 0 0, .slice none 0 0, .int .u64 0, .int .u64 0, .int .u64 0], .int .i64 2]) (by simp [results, Tryz.results51, go_sem, t0, t1, t2, t3, t4, t5]) rfl ⟨by rw [HX.out]; rfl, HB1.out.trans (HP9.out.below (fun j hj => by rw [hj]; omega) HB1.out.size)⟩
 ·clear HC
  subst hE hI
  have HX : Hid (X = zeroM) := by show _ = _; rw [HGO.out]; simp
  clear hk hf
  go_enter Tryz.func51, Tryz.ntmps51
  go_upto_region 1 with fail
  rw [← hv0]
  clear hv0
  go_wp2_with fail
  refine HLK.out.mono ?_
  rintro q w1 ⟨rfl, hb⟩
  have HB1 := Lib.hid (HB0.out.trans (hb.mono HB0.out.size))
  have HK1 := Lib.hid (HK0.out.below hb HK0.out.lt)
  have HR1 := Lib.hid (HR0.out.below hb HR0.out.lt)
  clear hb x0 x1 x2 lg
  obtain ⟨x0, x1, x2, _⟩ := HK1.out.three
  have lg := HK1.out.lt
  have HRZ := HR1.out
  unfold zA at HRZ
  obtain ⟨r0, r1, r2, r3, r4, r5, rf⟩ := six HRZ
  have rf0 := rf 0; have rf1 := rf 1; have rf2 := rf 2; have rf3 := rf 3; have rf4 := rf 4; have rf5 := rf 5
  have lr := HRZ.lt
  have HRR := Lib.hid HRZ
  clear rf HRZ
  go_wp2_with fail
  obtain ⟨v9, hv9⟩ : ∃ v9, v9 = put6 w1 (w.heap.size + 1) (.string ⟨#[]⟩) (.slice none 0 0) (.slice none 0 0) (.int .u64 0) (.int .u64 0) (.int .u64 0) := ⟨_, rfl⟩
  have HP9 : Hid (Only (fun j => j = w.heap.size + 1) w1 v9) := by show Only _ _ _; rw [hv9]; exact put6_only _ _ _ _ _ _ _ _
  have HR9 : Hid (Blk v9 (w.heap.size + 1) #[.string ⟨#[]⟩, .slice none 0 0, .slice none 0 0, .int .u64 0, .int .u64 0, .int .u64 0] 42) := by show Blk _ _ _ _; rw [hv9]; exact put6_blk HRR.out _ _ _ _ _ _
  unfold put6 at hv9
  rw [← hv9]
  obtain ⟨t0, t1, t2, t3, t4, t5, _⟩ := six HR9.out
  exact bodyPost_ret (v := .tuple #[.agg #[.string ⟨#[]⟩, .slice none 0 0, .slice none 0 0, .int .u64 0, .int .u64 0, .int .u64 0], .int .i64 9]) (by simp [results, Tryz.results51, go_sem, t0, t1, t2, t3, t4, t5]) rfl ⟨by rw [HX.out]; rfl, HB1.out.trans (HP9.out.below (fun j hj => by rw [hj]; omega) HB1.out.size)⟩
 ·clear HC
  subst hE hI
  have hi := fnd_lt Em.e hf
  have HX : Hid (X = l[i]) := by show _ = _; rw [HGO.out]; simp [hi]
  have i0 : (0 : Int) ≤ (i : Int) := by omega
  have i1 : (i : Int) < (l.length : Int) := by omega
  clear hk hf
  go_enter Tryz.func51, Tryz.ntmps51
  go_upto_region 1 with fail
  rw [← hv0]
  clear hv0
  go_wp2_with fail
  refine HLK.out.mono ?_
  rintro q w1 ⟨rfl, hb⟩
  have HB1 := Lib.hid (HB0.out.trans (hb.mono HB0.out.size))
  have HK1 := Lib.hid (HK0.out.below hb HK0.out.lt)
  have HR1 := Lib.hid (HR0.out.below hb HR0.out.lt)
  clear hb x0 x1 x2 lg
  obtain ⟨x0, x1, x2, _⟩ := HK1.out.three
  have lg := HK1.out.lt
  have HRZ := HR1.out
  unfold zA at HRZ
  obtain ⟨r0, r1, r2, r3, r4, r5, rf⟩ := six HRZ
  have rf0 := rf 0; have rf1 := rf 1; have rf2 := rf 2; have rf3 := rf 3; have rf4 := rf 4; have rf5 := rf 5
  have lr := HRZ.lt
  have HRR := Lib.hid HRZ
  clear rf HRZ
  obtain ⟨bb, o, rfl, lb, a0, a1, a2, a3, a4, a5⟩ := (HL.out.below HB1.out (Nat.le_refl _)).at_ hi
  rw [← HX.out] at a0 a1 a2 a3 a4 a5
  go_wp2_with fail
  obtain ⟨v9, hv9⟩ : ∃ v9, v9 = put6 w1 (w.heap.size + 1) (.string X.e.k) (.slice X.A X.e.v.length X.a) (.slice X.B X.e.t.length X.b) (.int .u64 X.e.d) (.int .u64 X.e.n) (.int .u64 X.e.s) := ⟨_, rfl⟩
  have HP9 : Hid (Only (fun j => j = w.heap.size + 1) w1 v9) := by show Only _ _ _; rw [hv9]; exact put6_only _ _ _ _ _ _ _ _
  have HR9 : Hid (Blk v9 (w.heap.size + 1) #[.string X.e.k, .slice X.A X.e.v.length X.a, .slice X.B X.e.t.length X.b, .int .u64 X.e.d, .int .u64 X.e.n, .int .u64 X.e.s] 42) := by show Blk _ _ _ _; rw [hv9]; exact put6_blk HRR.out _ _ _ _ _ _
  unfold put6 at hv9
  rw [← hv9]
  obtain ⟨t0, t1, t2, t3, t4, t5, _⟩ := six HR9.out
  exact bodyPost_ret (v := .tuple #[.agg #[.string X.e.k, .slice X.A X.e.v.length X.a, .slice X.B X.e.t.length X.b, .int .u64 X.e.d, .int .u64 X.e.n, .int .u64 X.e.s], .int .i64 0]) (by simp [results, Tryz.results51, go_sem, t0, t1, t2, t3, t4, t5]) rfl ⟨by rfl, HB1.out.trans (HP9.out.below (fun j hj => by rw [hj]; omega) HB1.out.size)⟩
end
end Go.Proofs.YtlmljhnogmfcfaaGreat.Ef
namespace Go.Proofs.YtlmljhnogmfcfaaGreat.Eg
open Go.RowKit Ap Mi Nw Ea Eb Ec Ed Ef

def zS : Array Value := #[.int .i64 0, .int .i64 0, .slice none 0 0]
section
variable {G : Nat → Prop} {A : Option Addr} {c : Nat} {l : List Em} {w : World}
structure Tri (w v : World) (C : Nat) (cs : Array Value) : Prop where
 b : Below C w v
 k : Blk v C cs 32
 r : Blk v (C + 1) zS 32
 x : Blk v (C + 1 + 1) zA 42
 z : v.heap.size = C + 3
theorem tri_new (w : World) (cs : Array Value) : Tri w (((w.alloc (.cells cs 32)).alloc (.cells zS 32)).alloc (.cells zA 42)) w.heap.size cs := by
 refine ⟨((bnew _ _).alloc (by simp) _).alloc (by simp; omega) _, ?_, ?_, ?_, by simp⟩
 ·exact ((Blk.new w _ _).below (bnew _ _) (by simp)).below (bnew _ _) (by simp; omega)
 ·have := (Blk.new (w.alloc (.cells cs 32)) zS 32).below (bnew _ (.cells zA 42)) (by simp)
  simpa using this
 ·have := Blk.new ((w.alloc (.cells cs 32)).alloc (.cells zS 32)) zA 42
  simpa using this
theorem nine {w : World} {C : Nat} (r : Blk w (C + 1) zS 32) (x : Blk w (C + 1 + 1) zA 42) {v : World} {a b c d e f g h i : Value} (hv : v = put6 (put3 w (C + 1) a b c) (C + 1 + 1) d e f g h i) :
  Blk v (C + 1) #[a, b, c] 32 ∧ Blk v (C + 1 + 1) #[d, e, f, g, h, i] 42 ∧ Only (fun j => C + 1 ≤ j) w v := by
 have h3 := put3_only w (C + 1) a b c
 have h6 := put6_only (put3 w (C + 1) a b c) (C + 1 + 1) d e f g h i
 rw [hv]
 refine ⟨(put3_blk r _ _ _).only h6 (by omega), put6_blk (x.only h3 (by omega)) _ _ _ _ _ _, ?_⟩
 exact Only.trans (h3.mono (fun j _ hj => by omega)) (h6.mono (fun j _ hj => Or.inl (by omega)))
theorem put_only9 {w v : World} {C : Nat} {a b c d e f g h i : Value} (hv : v = put6 (put3 w (C + 1) a b c) (C + 1 + 1) d e f g h i) : Only (fun j => C + 1 ≤ j ∧ j ≤ C + 2) w v := by
 rw [hv]
 exact Only.trans ((put3_only w (C + 1) a b c).mono (fun j _ hj => by omega)) ((put6_only _ (C + 1 + 1) d e f g h i).mono (fun j _ hj => Or.inl (by omega)))
set_option maxRecDepth 100000 in
theorem rem_no (b e : Int) (k : ByteArray) (hl : RL G w A c l) (hn : l.length ≤ 1000) (hk : lookR l k ≠ 0) :
  Calls Tryz.prog 54 #[mV b e A l.length c, .string k] w (vPost w (.tuple #[mV b e A l.length c, emV zeroM, .int .i64 (lookR l k)])) := by
 obtain ⟨v0, hv0⟩ : ∃ v0, v0 = ((w.alloc (.cells (mA b e A l.length c) 32)).alloc (.cells zS 32)).alloc (.cells zA 42) := ⟨_, rfl⟩
 have HT0 : Hid (Tri w v0 w.heap.size (mA b e A l.length c)) := by show Tri _ _ _ _; rw [hv0]; exact tri_new _ _
 obtain ⟨C, hC⟩ : ∃ C, C = w.heap.size := ⟨_, rfl⟩
 rw [← hC] at HT0
 have HLK := Lib.hid (look_any b e k (hl.below HT0.out.b (by omega)) hn)
 have HCB : Hid (∀ v, Below C w v → Below w.heap.size w v) := fun v h => by rw [← hC]; exact h
 have hcm := Rs.max hl.r
 unfold maxLen at hcm
 unfold mA zS zA at hv0
 unfold vPost mV at HLK
 unfold vPost mV emV
 have HKK := HT0.out.k
 unfold mA at HKK
 obtain ⟨x0, x1, x2, _, _, xf2⟩ := HKK.three
 have lg := HKK.lt
 obtain ⟨E, hE⟩ : ∃ E, E = lookR l k := ⟨_, rfl⟩
 rw [← hE] at HLK hk ⊢
 obtain ⟨I, hI⟩ : ∃ I, I = lookI l k := ⟨_, rfl⟩
 rw [← hI] at HLK
 clear hE hI hl
 have hkb : (E != 0) = true := by simpa using hk
 clear hk HKK
 have HCC := Lib.hid hC
 go_enter Tryz.func54, Tryz.ntmps54
 go_upto_region 1 with fail
 rw [← hv0, ← hC]
 clear hv0 hC
 go_wp2_with fail
 refine HLK.out.mono ?_
 rintro q w1 ⟨rfl, hb⟩
 have HB1 := Lib.hid (HT0.out.b.trans (hb.mono (by have := HT0.out.z; omega)))
 have HK1 := Lib.hid (HT0.out.k.below hb HT0.out.k.lt)
 have HR1 := Lib.hid (HT0.out.r.below hb HT0.out.r.lt)
 have HX1 := Lib.hid (HT0.out.x.below hb HT0.out.x.lt)
 have hz1 : C + 3 ≤ w1.heap.size := by have := hb.size; have := HT0.out.z; omega
 clear hb x0 x1 x2 xf2 lg
 have HKK := HK1.out
 unfold mA at HKK
 obtain ⟨x0, x1, x2, _, _, xf2⟩ := HKK.three
 have lg := HKK.lt
 have HRZ := HR1.out
 unfold zS at HRZ
 obtain ⟨r0, r1, r2, rf0, rf1, rf2⟩ := HRZ.three
 have lr := HRZ.lt
 clear HRZ
 have HXZ := HX1.out
 unfold zA at HXZ
 obtain ⟨y0, y1, y2, y3, y4, y5, yf⟩ := six HXZ
 have yf0 := yf 0; have yf1 := yf 1; have yf2 := yf 2; have yf3 := yf 3; have yf4 := yf 4; have yf5 := yf 5
 have ly := HXZ.lt
 clear yf HXZ
 clear HKK
 go_wp2_with fail
 obtain ⟨v9, hv9⟩ : ∃ v9, v9 = put6 (put3 w1 (C + 1) (.int .i64 b) (.int .i64 e) (.slice A l.length c)) (C + 1 + 1) (.string ⟨#[]⟩) (.slice none 0 0) (.slice none 0 0) (.int .u64 0) (.int .u64 0) (.int .u64 0) := ⟨_, rfl⟩
 obtain ⟨q1, q2, q3⟩ := nine HR1.out HX1.out hv9
 have HO9 := Lib.hid q3
 have HP9 := Lib.hid (put_only9 hv9)
 unfold put6 put3 at hv9
 rw [← hv9]
 clear hv9
 obtain ⟨s0, s1, s2, _⟩ := q1.three
 obtain ⟨t0, t1, t2, t3, t4, t5, _⟩ := six q2
 exact bodyPost_ret (v := .tuple #[.agg #[.int .i64 b, .int .i64 e, .slice A l.length c], .agg #[.string ⟨#[]⟩, .slice none 0 0, .slice none 0 0, .int .u64 0, .int .u64 0, .int .u64 0], .int .i64 E]) (by simp [results, Tryz.results54, go_sem, s0, s1, s2, t0, t1, t2, t3, t4, t5]) rfl ⟨rfl, HCB.out _ (HB1.out.trans (HO9.out.below (fun j hj => by omega) (by omega)))⟩
def remPost (b e : Int) (w : World) (l : List Em) (i : Nat) (x : Em) : Ending → World → Prop := fun q w' => ∃ A c, q = .returned (.tuple #[mV b e A (wo l i).length c, emV x, .int .i64 0]) ∧ Mine w.heap.size 6 w' A (wo l i).length c (emL (wo l i)) ∧ Below w.heap.size w w'
set_option maxRecDepth 100000 in
set_option maxHeartbeats 1000000 in
theorem rem_yes (b e : Int) (k : ByteArray) (hl : RL G w A c l) (hn : l.length ≤ 1000) {i : Nat} (hk : keyOk k) (hf : fnd Em.e l k = some i) {x : Em} (hi : i < l.length) (hx : x = l[i]) :
  Calls Tryz.prog 54 #[mV b e A l.length c, .string k] w (remPost b e w l i x) := by
 obtain ⟨v0, hv0⟩ : ∃ v0, v0 = ((w.alloc (.cells (mA b e A l.length c) 32)).alloc (.cells zS 32)).alloc (.cells zA 42) := ⟨_, rfl⟩
 have HT0 : Hid (Tri w v0 w.heap.size (mA b e A l.length c)) := by show Tri _ _ _ _; rw [hv0]; exact tri_new _ _
 obtain ⟨C, hC⟩ : ∃ C, C = w.heap.size := ⟨_, rfl⟩
 rw [← hC] at HT0
 have e1 : lookR l k = 0 := by unfold lookR; rw [if_pos hk, hf]
 have e2 : lookI l k = (i : Int) := by unfold lookI; rw [if_pos hk, hf]
 have HLK := Lib.hid (look_any b e k (hl.below HT0.out.b (by omega)) hn)
 rw [e1, e2] at HLK
 have HL := Lib.hid hl
 have HXI := Lib.hid hx
 have HCB : Hid (∀ v, Below C w v → Below w.heap.size w v) := fun v h => by rw [← hC]; exact h
 have HCC : Hid (w.heap.size ≤ C) := by show _ ≤ _; omega
 have hcm := Rs.max hl.r
 have hcl := Rs.le hl.r
 unfold maxLen at hcm
 unfold mA zS zA at hv0
 unfold vPost mV at HLK
 unfold remPost mV emV
 have HKK := HT0.out.k
 unfold mA at HKK
 obtain ⟨x0, x1, x2, _, _, xf2⟩ := HKK.three
 have lg := HKK.lt
 have i0 : (0 : Int) ≤ (i : Int) := by omega
 have i1 : (i : Int) < (l.length : Int) := by omega
 clear hk hf hl hx e1 e2 HKK
 go_enter Tryz.func54, Tryz.ntmps54
 go_upto_region 1 with fail
 rw [← hv0, ← hC]
 clear hv0 hC
 go_wp2_with fail
 refine HLK.out.mono ?_
 rintro q w1 ⟨rfl, hb⟩
 have HB1 := Lib.hid (HT0.out.b.trans (hb.mono (by have := HT0.out.z; omega)))
 have HK1 := Lib.hid (HT0.out.k.below hb HT0.out.k.lt)
 have HR1 := Lib.hid (HT0.out.r.below hb HT0.out.r.lt)
 have HX1 := Lib.hid (HT0.out.x.below hb HT0.out.x.lt)
 have hz1 : C + 3 ≤ w1.heap.size := by have := hb.size; have := HT0.out.z; omega
 clear hb x0 x1 x2 xf2 lg
 have HKK := HK1.out
 unfold mA at HKK
 obtain ⟨x0, x1, x2, _, _, xf2⟩ := HKK.three
 have lg := HKK.lt
 clear HKK
 obtain ⟨bb, o, rfl, lb, a0, a1, a2, a3, a4, a5⟩ := (HL.out.below HB1.out HCC.out).at_ hi
 rw [← HXI.out] at a0 a1 a2 a3 a4 a5
 obtain ⟨v2, hv2⟩ : ∃ v2, v2 = w1.alloc (.cells #[.string x.e.k, .slice x.A x.e.v.length x.a, .slice x.B x.e.t.length x.b, .int .u64 x.e.d, .int .u64 x.e.n, .int .u64 x.e.s] 42) := ⟨_, rfl⟩
 obtain ⟨D, hD⟩ : ∃ D, D = w1.heap.size := ⟨_, rfl⟩
 have HB2 : Hid (Below w1.heap.size w1 v2) := by show Below _ _ _; rw [hv2]; exact bnew _ _
 have HZ2 : Hid (Blk v2 D #[.string x.e.k, .slice x.A x.e.v.length x.a, .slice x.B x.e.t.length x.b, .int .u64 x.e.d, .int .u64 x.e.n, .int .u64 x.e.s] 42) := by show Blk _ _ _ _; rw [hv2, hD]; exact Blk.new w1 _ _
 have hz2 : v2.heap.size = D + 1 := by rw [hv2, hD]; simp
 have HO := Lib.hid (out_any (some ⟨bb, o, none⟩) c l v2 ((HL.out.below HB1.out HCC.out).below HB2.out (Nat.le_refl _)).r hn hi)
 unfold rowPost at HO
 have hDC : C + 3 ≤ D := by omega
 have HBD : Hid (Below C w v2) := HB1.out.trans (HB2.out.mono (by omega))
 have HK2 := Lib.hid (HK1.out.below HB2.out (by omega))
 have HR2 := Lib.hid (HR1.out.below HB2.out (by omega))
 have HX2 := Lib.hid (HX1.out.below HB2.out (by omega))
 go_upto_region 5 with fail
 rw [← hv2, ← hD]
 clear hv2 hD x0 x1 x2 xf2 lg a0 a1 a2 a3 a4 a5
 have HKK := HK2.out
 unfold mA at HKK
 obtain ⟨x0, x1, x2, _, _, xf2⟩ := HKK.three
 have lg := HKK.lt
 clear HKK
 go_wp2_with fail
 refine HO.out.mono ?_
 rintro q w3 ⟨A3, c3, rfl, m3, b3⟩
 have HM3 := Lib.hid m3
 have HB3 := Lib.hid b3
 clear HO x0 x1 x2 xf2 lg
 have HK3 := Lib.hid (HK2.out.below b3 (by omega))
 have HR3 := Lib.hid (HR2.out.below b3 (by omega))
 have HX3 := Lib.hid (HX2.out.below b3 (by omega))
 have HZ3 := Lib.hid (HZ2.out.below b3 (by omega))
 clear m3 b3
 have HKK := HK3.out
 unfold mA at HKK
 obtain ⟨x0, x1, x2, _, _, xf2⟩ := HKK.three
 have lg := HKK.lt
 clear HKK
 obtain ⟨v4, hv4⟩ : ∃ v4, v4 = w3.setCell ⟨C, 2, none⟩ (.slice A3 (wo l i).length c3) := ⟨_, rfl⟩
 have HP4 : Hid (Only (fun j => j = C) w3 v4) := by show Only _ _ _; rw [hv4]; exact only_own (F := fun j => j = C) rfl _
 have HK4 : Hid (Blk v4 C #[.int .i64 b, .int .i64 e, .slice A3 (wo l i).length c3] 32) := by show Blk _ _ _ _; rw [hv4]; exact HK3.out.set 2 _
 have HR4 := Lib.hid (HR3.out.only HP4.out (by omega))
 have HX4 := Lib.hid (HX3.out.only HP4.out (by omega))
 have HZ4 := Lib.hid (HZ3.out.only HP4.out (by omega))
 have HM4 : Hid (Mine v2.heap.size 6 v4 A3 (wo l i).length c3 (emL (wo l i))) := HM3.out.only HP4.out (fun a ha hf => by have := (HM3.out.base ha).1; omega)
 have HB4 : Hid (Below C w v4) := (HBD.out.trans (HB3.out.mono (by omega))).trans (HP4.out.below (fun j hj => by omega) (by have := HB3.out.size; omega))
 go_upto_region 6 with fail
 rw [← hv4]
 clear hv4 x0 x1 x2 xf2 lg
 obtain ⟨x0, x1, x2, _, _, _⟩ := HK4.out.three
 have lg := HK4.out.lt
 obtain ⟨z0, z1, z2, z3, z4, z5, _⟩ := six HZ4.out
 have lz := HZ4.out.lt
 have HRZ := HR4.out
 unfold zS at HRZ
 obtain ⟨r0, r1, r2, rf0, rf1, rf2⟩ := HRZ.three
 have lr := HRZ.lt
 clear HRZ
 have HXZ := HX4.out
 unfold zA at HXZ
 obtain ⟨y0, y1, y2, y3, y4, y5, yf⟩ := six HXZ
 have yf0 := yf 0; have yf1 := yf 1; have yf2 := yf 2; have yf3 := yf 3; have yf4 := yf 4; have yf5 := yf 5
 have ly := HXZ.lt
 clear yf HXZ
 go_region
 obtain ⟨v9, hv9⟩ : ∃ v9, v9 = put6 (put3 v4 (C + 1) (.int .i64 b) (.int .i64 e) (.slice A3 (wo l i).length c3)) (C + 1 + 1) (.string x.e.k) (.slice x.A x.e.v.length x.a) (.slice x.B x.e.t.length x.b) (.int .u64 x.e.d) (.int .u64 x.e.n) (.int .u64 x.e.s) := ⟨_, rfl⟩
 obtain ⟨q1, q2, q3⟩ := nine HR4.out HX4.out hv9
 have HO9 := Lib.hid q3
 have HP9 := Lib.hid (put_only9 hv9)
 unfold put6 put3 at hv9
 rw [← hv9]
 clear hv9
 obtain ⟨s0, s1, s2, _⟩ := q1.three
 obtain ⟨t0, t1, t2, t3, t4, t5, _⟩ := six q2
 go_wp2_with fail
 refine bodyPost_ret (v := .tuple #[.agg #[.int .i64 b, .int .i64 e, .slice A3 (wo l i).length c3], .agg #[.string x.e.k, .slice x.A x.e.v.length x.a, .slice x.B x.e.t.length x.b, .int .u64 x.e.d, .int .u64 x.e.n, .int .u64 x.e.s], .int .i64 0]) (by simp [results, Tryz.results54, go_sem, s0, s1, s2, t0, t1, t2, t3, t4, t5]) rfl ⟨A3, c3, rfl, ?_, ?_⟩
 ·have h1 : Mine v2.heap.size 6 v9 A3 (wo l i).length c3 (emL (wo l i)) := HM4.out.only (F := fun j => C + 1 ≤ j ∧ j ≤ C + 2) HP9.out (fun a ha hf => by have := (HM4.out.base ha).1; omega)
  exact mine_drew (h1.mono (by have := HCC.out; omega))
 ·exact (HCB.out _ (HB4.out.trans (HO9.out.below (fun j hj => by omega) (by have := HB3.out.size; have := HP4.out.size; omega)))).drew
end
end Go.Proofs.YtlmljhnogmfcfaaGreat.Eg
namespace Go.Proofs.YtlmljhnogmfcfaaGreat.Eh
open Go.RowKit Ap Mi Nw Ea Eb Ec Ed Ef Eg

theorem src_lit {w : World} {t e e' : TypeId} (hk : Tryz.prog.underlying t = some (.slice e)) (cs : Array Value) (n sz : Nat) (hn : cs.size = n * sz) (h1 : ∀ u ∈ cs.toList, u.oneCell' = true) : Src Tryz.prog sz t (.slice (some ⟨w.heap.size, 0, none⟩) n n) n cs.toList (w.alloc (.cells cs e')) :=
 Src.ofSlice _ hk _ n n cs.toList (by simpa using hn) (fun j u hu => by
  rw [Nw.add_lit, Nat.zero_add, cell_of_row _ _ j cs e' (0, 0) (heap_alloc_new w _)]; simpa using hu) h1
theorem src_one (w : World) (x : Em) : Src Tryz.prog 6 30 (.slice (some ⟨w.heap.size, 0, none⟩) 1 1) 1 (emC x) (w.alloc (.cells (emA x) 42)) :=
 src_lit Tryz.underlying30 (emA x) 1 6 rfl (by rw [show (emA x).toList = emL [x] from by rw [emL_one]; rfl]; exact emL_one' _)
section
variable {G : Nat → Prop} {A : Option Addr} {c : Nat} {l : List Em} {w : World}
theorem duo_new (w : World) (cs : Array Value) (x : Em) : Below w.heap.size w ((w.alloc (.cells cs 32)).alloc (.cells (emA x) 42)) ∧ Blk ((w.alloc (.cells cs 32)).alloc (.cells (emA x) 42)) w.heap.size cs 32 ∧ Blk ((w.alloc (.cells cs 32)).alloc (.cells (emA x) 42)) (w.heap.size + 1) (emA x) 42 ∧ ((w.alloc (.cells cs 32)).alloc (.cells (emA x) 42)).heap.size = w.heap.size + 2 := by
 refine ⟨(bnew _ _).alloc (by simp) _, (Blk.new w _ _).below (bnew _ _) (by simp), ?_, by simp⟩
 have := Blk.new (w.alloc (.cells cs 32)) (emA x) 42
 simpa using this
set_option maxRecDepth 100000 in
theorem use_no (b e : Int) (k : ByteArray) (hl : RL G w A c l) (hn : l.length ≤ 1000) (hk : lookR l k ≠ 0) :
  Calls Tryz.prog 52 #[mV b e A l.length c, .string k] w (vPost w (.tuple #[mV b e A l.length c, emV zeroM, .int .i64 (lookR l k)])) := by
 obtain ⟨v0, hv0⟩ : ∃ v0, v0 = ((w.alloc (.cells (mA b e A l.length c) 32)).alloc (.cells zS 32)).alloc (.cells zA 42) := ⟨_, rfl⟩
 have HT0 : Hid (Tri w v0 w.heap.size (mA b e A l.length c)) := by show Tri _ _ _ _; rw [hv0]; exact tri_new _ _
 obtain ⟨C, hC⟩ : ∃ C, C = w.heap.size := ⟨_, rfl⟩
 rw [← hC] at HT0
 have HLK := Lib.hid (rem_no b e k (hl.below HT0.out.b (by omega)) hn hk)
 have HCB : Hid (∀ v, Below C w v → Below w.heap.size w v) := fun v h => by rw [← hC]; exact h
 have HCC : Hid (w.heap.size ≤ C) := by show _ ≤ _; omega
 have hcm := Rs.max hl.r
 have hcl := Rs.le hl.r
 unfold maxLen at hcm
 have hzC := HT0.out.z
 have HKK := HT0.out.k
 unfold mA at HKK
 obtain ⟨x0, x1, x2, _, _, xf2⟩ := HKK.three
 have lg := HKK.lt
 unfold mA zS zA at hv0
 unfold vPost mV emV at HLK
 simp only [zeroM, zeroE, List.length_nil] at HLK
 unfold vPost mV emV
 obtain ⟨E, hE⟩ : ∃ E, E = lookR l k := ⟨_, rfl⟩
 rw [← hE] at HLK hk ⊢
 have hkb : (E != 0) = true := by simpa using hk
 clear hE hl hk HKK
 go_enter Tryz.func52, Tryz.ntmps52
 go_upto_region 1 with fail
 rw [← hv0, ← hC]
 clear hv0 hC
 go_wp2_with fail
 refine HLK.out.mono ?_
 rintro q w1 ⟨rfl, hb⟩
 have HB1 := Lib.hid (HT0.out.b.trans (hb.mono (by omega)))
 have HK1 := Lib.hid (HT0.out.k.below hb HT0.out.k.lt)
 have HR1 := Lib.hid (HT0.out.r.below hb HT0.out.r.lt)
 have HX1 := Lib.hid (HT0.out.x.below hb HT0.out.x.lt)
 have hz1 : C + 3 ≤ w1.heap.size := by have := hb.size; omega
 clear hb x0 x1 x2 xf2 lg
 obtain ⟨v2, hv2⟩ : ∃ v2, v2 = (w1.alloc (.cells #[.int .i64 b, .int .i64 e, .slice A l.length c] 32)).alloc (.cells (emA zeroM) 42) := ⟨_, rfl⟩
 have HD := duo_new w1 #[.int .i64 b, .int .i64 e, .slice A l.length c] zeroM
 rw [← hv2] at HD
 obtain ⟨hd1, hd2, hd3, hd4⟩ := HD
 obtain ⟨D, hD⟩ : ∃ D, D = w1.heap.size := ⟨_, rfl⟩
 rw [← hD] at hd2 hd3 hd4
 have hd5 : v2.heap.size ≤ D + 2 := by omega
 have hd6 : D + 2 ≤ v2.heap.size := by omega
 clear hd4
 have HK2 := Lib.hid (HK1.out.below hd1 HK1.out.lt)
 have HR2 := Lib.hid (HR1.out.below hd1 HR1.out.lt)
 have HX2 := Lib.hid (HX1.out.below hd1 HX1.out.lt)
 have HB2 := Lib.hid (HB1.out.trans (hd1.mono (by omega)))
 have HD2 := Lib.hid hd2; have HD3 := Lib.hid hd3
 have hDC : C + 3 ≤ D := by omega
 unfold emA at hv2
 simp only [zeroM, zeroE, List.length_nil] at hv2
 clear hd1 hd2 hd3
 go_upto_region 2 with fail
 rw [← hv2, ← hD]
 clear hv2 hD
 have HKK := HK2.out
 unfold mA at HKK
 obtain ⟨x0, x1, x2, _, _, xf2⟩ := HKK.three
 have lg := HKK.lt
 have HRZ := HR2.out
 unfold zS at HRZ
 obtain ⟨r0, r1, r2, rf0, rf1, rf2⟩ := HRZ.three
 have lr := HRZ.lt
 clear HRZ
 have HXZ := HX2.out
 unfold zA at HXZ
 obtain ⟨y0, y1, y2, y3, y4, y5, yf⟩ := six HXZ
 have yf0 := yf 0; have yf1 := yf 1; have yf2 := yf 2; have yf3 := yf 3; have yf4 := yf 4; have yf5 := yf 5
 have ly := HXZ.lt
 clear yf HXZ
 have HE3 := HD3.out
 unfold emA at HE3
 simp only [zeroM, zeroE, List.length_nil] at HE3
 obtain ⟨z0, z1, z2, z3, z4, z5, _⟩ := six HE3
 have lz := HE3.lt
 clear HE3 HKK
 go_wp2_with fail
 go_region
 obtain ⟨v9, hv9⟩ : ∃ v9, v9 = put6 (put3 v2 (C + 1) (.int .i64 b) (.int .i64 e) (.slice A l.length c)) (C + 1 + 1) (.string ⟨#[]⟩) (.slice none 0 0) (.slice none 0 0) (.int .u64 0) (.int .u64 0) (.int .u64 0) := ⟨_, rfl⟩
 obtain ⟨q1, q2, q3⟩ := nine HR2.out HX2.out hv9
 have HO9 := Lib.hid q3
 have HP9 := Lib.hid (put_only9 hv9)
 unfold put6 put3 at hv9
 rw [← hv9]
 clear hv9
 obtain ⟨s0, s1, s2, _⟩ := q1.three
 obtain ⟨t0, t1, t2, t3, t4, t5, _⟩ := six q2
 go_wp2_with fail
 exact bodyPost_ret (v := .tuple #[.agg #[.int .i64 b, .int .i64 e, .slice A l.length c], .agg #[.string ⟨#[]⟩, .slice none 0 0, .slice none 0 0, .int .u64 0, .int .u64 0, .int .u64 0], .int .i64 E]) (by simp [results, Tryz.results52, go_sem, s0, s1, s2, t0, t1, t2, t3, t4, t5]) rfl ⟨rfl, (HCB.out _ (HB2.out.trans (HO9.out.below (fun j hj => by omega) (by omega)))).drew⟩
def usePost (b e : Int) (w : World) (l : List Em) (x : Em) : Ending → World → Prop := fun q w' => ∃ A c, q = .returned (.tuple #[mV b e A l.length c, emV x, .int .i64 0]) ∧ Mine w.heap.size 6 w' A l.length c (emL l) ∧ Below w.heap.size w w'
set_option maxRecDepth 100000 in
set_option maxHeartbeats 1000000 in
theorem use_yes (b e : Int) (k : ByteArray) (hl : RL G w A c l) (hn : l.length ≤ 1000) {i : Nat} (hk : keyOk k) (hf : fnd Em.e l k = some i) {x : Em} (hi : i < l.length) (hx : x = l[i]) :
  Calls Tryz.prog 52 #[mV b e A l.length c, .string k] w (usePost b e w (wo l i ++ [x]) x) := by
 obtain ⟨v0, hv0⟩ : ∃ v0, v0 = ((w.alloc (.cells (mA b e A l.length c) 32)).alloc (.cells zS 32)).alloc (.cells zA 42) := ⟨_, rfl⟩
 have HT0 : Hid (Tri w v0 w.heap.size (mA b e A l.length c)) := by show Tri _ _ _ _; rw [hv0]; exact tri_new _ _
 obtain ⟨C, hC⟩ : ∃ C, C = w.heap.size := ⟨_, rfl⟩
 rw [← hC] at HT0
 have HLK := Lib.hid (rem_yes b e k (hl.below HT0.out.b (by omega)) hn hk hf hi hx)
 have HCB : Hid (∀ v, Below C w v → Below w.heap.size w v) := fun v h => by rw [← hC]; exact h
 have HCC : Hid (w.heap.size ≤ C) := by show _ ≤ _; omega
 have hcm := Rs.max hl.r
 have hcl := Rs.le hl.r
 unfold maxLen at hcm
 have hzC := HT0.out.z
 have HKK := HT0.out.k
 unfold mA at HKK
 obtain ⟨x0, x1, x2, _, _, xf2⟩ := HKK.three
 have lg := HKK.lt
 have hlm : (wo l i).length ≤ 1000 := by have := wo_len hi; omega
 obtain ⟨m, hm⟩ : ∃ m, m = wo l i := ⟨_, rfl⟩
 unfold remPost at HLK
 unfold usePost
 rw [← hm] at HLK hlm ⊢
 obtain ⟨M, hM⟩ : ∃ M, M = m ++ [x] := ⟨_, rfl⟩
 rw [← hM]
 have HMM := Lib.hid hM
 have HML : Hid (m.length + 1 = M.length) := by show _ = _; rw [hM]; simp
 clear hM
 unfold mA zS zA at hv0
 unfold mV emV at HLK ⊢
 clear hk hf hl hx HKK hm
 go_enter Tryz.func52, Tryz.ntmps52
 go_upto_region 1 with fail
 rw [← hv0, ← hC]
 clear hv0 hC
 go_wp2_with fail
 refine HLK.out.mono ?_
 rintro q w1 ⟨A3, c3, rfl, m3, hb⟩
 have HM3 : Hid (Mine (C + 3) 6 w1 A3 m.length c3 (emL m)) := m3.mono (by omega)
 have HB1 := Lib.hid (HT0.out.b.trans (hb.mono (by omega)))
 have HK1 := Lib.hid (HT0.out.k.below hb HT0.out.k.lt)
 have HR1 := Lib.hid (HT0.out.r.below hb HT0.out.r.lt)
 have HX1 := Lib.hid (HT0.out.x.below hb HT0.out.x.lt)
 have hz1 : C + 3 ≤ w1.heap.size := by have := hb.size; omega
 have hc3 := m3.max
 unfold maxLen at hc3
 clear hb x0 x1 x2 xf2 lg m3
 obtain ⟨v2, hv2⟩ : ∃ v2, v2 = (w1.alloc (.cells #[.int .i64 b, .int .i64 e, .slice A3 m.length c3] 32)).alloc (.cells (emA x) 42) := ⟨_, rfl⟩
 have HD := duo_new w1 #[.int .i64 b, .int .i64 e, .slice A3 m.length c3] x
 rw [← hv2] at HD
 obtain ⟨hd1, hd2, hd3, hd4⟩ := HD
 obtain ⟨D, hD⟩ : ∃ D, D = w1.heap.size := ⟨_, rfl⟩
 rw [← hD] at hd2 hd3 hd4
 have hd5 : v2.heap.size ≤ D + 2 := by omega
 have hd6 : D + 2 ≤ v2.heap.size := by omega
 clear hd4
 have HK2 := Lib.hid (HK1.out.below hd1 HK1.out.lt)
 have HR2 := Lib.hid (HR1.out.below hd1 HR1.out.lt)
 have HX2 := Lib.hid (HX1.out.below hd1 HX1.out.lt)
 have HB2 := Lib.hid (HB1.out.trans (hd1.mono (by omega)))
 have HM2 := Lib.hid (HM3.out.below hd1 (Nat.le_refl _))
 have HM2D : Hid (∀ a, A3 = some a → a.block < D) := fun a ha => by have := (HM3.out.base ha).2.1; omega
 have HD2 := Lib.hid hd2; have HD3 := Lib.hid hd3
 have hDC : C + 3 ≤ D := by omega
 unfold emA at hv2
 clear hd1 hd2 hd3
 go_upto_region 4 with fail
 rw [← hv2, ← hD]
 clear hv2 hD
 obtain ⟨d0, d1, d2, df0, df1, df2⟩ := HD2.out.three
 have ld := HD2.out.lt
 have HE3 := HD3.out
 unfold emA at HE3
 obtain ⟨z0, z1, z2, z3, z4, z5, _⟩ := six HE3
 have lz := HE3.lt
 clear HE3
 go_wp2_with (at_builtin; (refine wpList_mine rfl _ _ elE _ rfl rfl (HM2.out.below (bnew v2 (.cells #[.string x.e.k, .slice x.A x.e.v.length x.a, .slice x.B x.e.t.length x.b, .int .u64 x.e.d, .int .u64 x.e.n, .int .u64 x.e.s] 42)) (Nat.le_refl _)) _ rfl 1 _ (src_one v2 x) (by omega) (by omega) (by simp; omega) ?_))
 intro A4 c4 w4 m4 g4 e4
 have HM4 : Hid (Mine (C + 3) 6 w4 A4 M.length c4 (emL M)) := by show Mine _ _ _ _ _ _ _; rw [← HML.out, HMM.out, emL_append, emL_one]; exact m4
 have HP4 : Hid (Only (fun j => C + 3 ≤ j ∧ j < D) v2 w4) := by
  show Only _ _ _
  exact Only.trans (Only.of_below (bnew v2 _) (Nat.le_refl _) _) (Only.of_grown g4 (fun k e => by
   cases hA : A3 with
   | none => rw [hA] at e; cases e
   | some a => rw [hA] at e; simp at e; subst e; exact Or.inl ⟨(HM2.out.base hA).1, HM2D.out a hA⟩))
 have HA4 : Hid (∀ a, A4 = some a → a.block < D ∨ v2.heap.size ≤ a.block) := fun a ha => by
  rcases e4 with e4 | e4
  ·exact Or.inl (HM2D.out a (by rw [← e4]; exact ha))
  ·have := e4 a ha; exact Or.inr (by first | omega | (simp at this; omega))
 have HK4 := Lib.hid (HK2.out.only HP4.out (by omega))
 have HR4 := Lib.hid (HR2.out.only HP4.out (by omega))
 have HX4 := Lib.hid (HX2.out.only HP4.out (by omega))
 have HD4 := Lib.hid (HD2.out.only HP4.out (by omega))
 have HZ4 := Lib.hid (HD3.out.only HP4.out (by omega))
 have HB4 : Hid (Below C w w4) := HB2.out.trans (HP4.out.below (fun j hj => by omega) (by omega))
 have hz4 := HP4.out.size
 clear m4 g4 e4 d0 d1 d2 df0 df1 df2 ld z0 z1 z2 z3 z4 z5 lz
 obtain ⟨d0, d1, d2, df0, df1, df2⟩ := HD4.out.three
 have ld := HD4.out.lt
 rw [HML.out]
 obtain ⟨v5, hv5⟩ : ∃ v5, v5 = w4.setCell ⟨D, 2, none⟩ (.slice A4 M.length c4) := ⟨_, rfl⟩
 have HP5 : Hid (Only (fun j => j = D) w4 v5) := by show Only _ _ _; rw [hv5]; exact only_own (F := fun j => j = D) rfl _
 have HD5 : Hid (Blk v5 D #[.int .i64 b, .int .i64 e, .slice A4 M.length c4] 32) := by show Blk _ _ _ _; rw [hv5]; exact HD4.out.set 2 _
 have HK5 := Lib.hid (HK4.out.only HP5.out (by omega))
 have HR5 := Lib.hid (HR4.out.only HP5.out (by omega))
 have HX5 := Lib.hid (HX4.out.only HP5.out (by omega))
 have HZ5 := Lib.hid (HZ4.out.only HP5.out (by omega))
 have HM5 : Hid (Mine (C + 3) 6 v5 A4 M.length c4 (emL M)) := HM4.out.only HP5.out (fun a ha hf => by have := HA4.out a ha; omega)
 have HB5 : Hid (Below C w v5) := HB4.out.trans (HP5.out.below (fun j hj => by omega) (by omega))
 have hz5 := HP5.out.size
 go_upto_region 5 with fail
 rw [← hv5]
 clear hv5 d0 d1 d2 df0 df1 df2 ld
 obtain ⟨d0, d1, d2, _, _, _⟩ := HD5.out.three
 have ld := HD5.out.lt
 have HE3 := HZ5.out
 unfold emA at HE3
 obtain ⟨z0, z1, z2, z3, z4, z5, _⟩ := six HE3
 have lz := HE3.lt
 clear HE3
 have HKK := HK5.out
 unfold mA at HKK
 obtain ⟨x0, x1, x2, _, _, xf2⟩ := HKK.three
 have lg := HKK.lt
 have HRZ := HR5.out
 unfold zS at HRZ
 obtain ⟨r0, r1, r2, rf0, rf1, rf2⟩ := HRZ.three
 have lr := HRZ.lt
 clear HRZ
 have HXZ := HX5.out
 unfold zA at HXZ
 obtain ⟨y0, y1, y2, y3, y4, y5, yf⟩ := six HXZ
 have yf0 := yf 0; have yf1 := yf 1; have yf2 := yf 2; have yf3 := yf 3; have yf4 := yf 4; have yf5 := yf 5
 have ly := HXZ.lt
 clear yf HXZ
 clear HKK
 go_region
 obtain ⟨v9, hv9⟩ : ∃ v9, v9 = put6 (put3 v5 (C + 1) (.int .i64 b) (.int .i64 e) (.slice A4 M.length c4)) (C + 1 + 1) (.string x.e.k) (.slice x.A x.e.v.length x.a) (.slice x.B x.e.t.length x.b) (.int .u64 x.e.d) (.int .u64 x.e.n) (.int .u64 x.e.s) := ⟨_, rfl⟩
 obtain ⟨q1, q2, q3⟩ := nine HR5.out HX5.out hv9
 have HO9 := Lib.hid q3
 have HP9 := Lib.hid (put_only9 hv9)
 unfold put6 put3 at hv9
 rw [← hv9]
 clear hv9
 obtain ⟨s0, s1, s2, _⟩ := q1.three
 obtain ⟨t0, t1, t2, t3, t4, t5, _⟩ := six q2
 go_wp2_with fail
 refine bodyPost_ret (v := .tuple #[.agg #[.int .i64 b, .int .i64 e, .slice A4 M.length c4], .agg #[.string x.e.k, .slice x.A x.e.v.length x.a, .slice x.B x.e.t.length x.b, .int .u64 x.e.d, .int .u64 x.e.n, .int .u64 x.e.s], .int .i64 0]) (by simp [results, Tryz.results52, go_sem, s0, s1, s2, t0, t1, t2, t3, t4, t5]) rfl ⟨A4, c4, rfl, ?_, ?_⟩
 ·have h1 : Mine (C + 3) 6 v9 A4 M.length c4 (emL M) := HM5.out.only HP9.out (fun a ha hf => by have := (HM5.out.base ha).1; omega)
  exact mine_drew (h1.mono (by have := HCC.out; omega))
 ·exact (HCB.out _ (HB5.out.trans (HO9.out.below (fun j hj => by omega) (by omega)))).drew
structure Bi (w v : World) (C : Nat) (cs : Array Value) : Prop where
 b : Below C w v
 k : Blk v C cs 32
 r : Blk v (C + 1) zS 32
 z1 : v.heap.size ≤ C + 2
 z2 : C + 2 ≤ v.heap.size
theorem bi_new (w : World) (cs : Array Value) : Bi w ((w.alloc (.cells cs 32)).alloc (.cells zS 32)) w.heap.size cs := by
 refine ⟨(bnew _ _).alloc (by simp) _, (Blk.new w _ _).below (bnew _ _) (by simp), ?_, by simp, by simp⟩
 have := Blk.new (w.alloc (.cells cs 32)) zS 32
 simpa using this
def withD (x : Em) (d : Int) : Em := { x with e := { x.e with d := d } }
theorem set_d (m : List Em) (x : Em) (d : Int) : (emL (m ++ [x])).set (m.length * 6 + 3) (.int .u64 d) = emL (m ++ [withD x d]) := by
 rw [emL_append, emL_append, emL_one, emL_one]
 have h := emL_len m
 rw [List.set_append_right _ _ (by omega), h, show m.length * 6 + 3 - m.length * 6 = 3 from by omega]
 rfl
set_option maxRecDepth 100000 in
theorem tou_no (b e : Int) (k : ByteArray) (d : Int) (hl : RL G w A c l) (hn : l.length ≤ 1000) (hk : lookR l k ≠ 0) :
  Calls Tryz.prog 53 #[mV b e A l.length c, .string k, .int .u64 d] w (vPost w (.tuple #[mV b e A l.length c, .int .i64 (lookR l k)])) := by
 obtain ⟨v0, hv0⟩ : ∃ v0, v0 = (w.alloc (.cells (mA b e A l.length c) 32)).alloc (.cells zS 32) := ⟨_, rfl⟩
 have HT0 : Hid (Bi w v0 w.heap.size (mA b e A l.length c)) := by show Bi _ _ _ _; rw [hv0]; exact bi_new _ _
 obtain ⟨C, hC⟩ : ∃ C, C = w.heap.size := ⟨_, rfl⟩
 rw [← hC] at HT0
 have HLK := Lib.hid (use_no b e k (hl.below HT0.out.b (by omega)) hn hk)
 have HCB : Hid (∀ v, Below C w v → Below w.heap.size w v) := fun v h => by rw [← hC]; exact h
 have HCC : Hid (w.heap.size ≤ C) := by show _ ≤ _; omega
 have hcm := Rs.max hl.r
 have hcl := Rs.le hl.r
 unfold maxLen at hcm
 have hzC1 := HT0.out.z1; have hzC2 := HT0.out.z2
 have HKK := HT0.out.k
 unfold mA at HKK
 obtain ⟨x0, x1, x2, _, _, xf2⟩ := HKK.three
 have lg := HKK.lt
 unfold mA zS at hv0
 unfold vPost mV emV at HLK
 simp only [zeroM, zeroE, List.length_nil] at HLK
 unfold vPost mV
 obtain ⟨E, hE⟩ : ∃ E, E = lookR l k := ⟨_, rfl⟩
 rw [← hE] at HLK hk ⊢
 have hkb : (E != 0) = true := by simpa using hk
 clear hE hl hk HKK
 go_enter Tryz.func53, Tryz.ntmps53
 go_upto_region 1 with fail
 rw [← hv0, ← hC]
 clear hv0 hC
 go_wp2_with fail
 refine HLK.out.mono ?_
 rintro q w1 ⟨rfl, hb⟩
 have HK1 := Lib.hid (HT0.out.k.below hb HT0.out.k.lt)
 have HR1 := Lib.hid (HT0.out.r.below hb HT0.out.r.lt)
 have HB1 := Lib.hid (HT0.out.b.trans (hb.mono (by omega)))
 have hz1 : C + 2 ≤ w1.heap.size := by have := hb.size; omega
 clear hb x0 x1 x2 xf2 lg
 obtain ⟨v2, hv2⟩ : ∃ v2, v2 = (w1.alloc (.cells #[.int .i64 b, .int .i64 e, .slice A l.length c] 32)).alloc (.cells (emA zeroM) 42) := ⟨_, rfl⟩
 have HD := duo_new w1 #[.int .i64 b, .int .i64 e, .slice A l.length c] zeroM
 rw [← hv2] at HD
 obtain ⟨hd1, hd2, hd3, hd4⟩ := HD
 obtain ⟨D, hD⟩ : ∃ D, D = w1.heap.size := ⟨_, rfl⟩
 rw [← hD] at hd2 hd3 hd4
 have hd5 : v2.heap.size ≤ D + 2 := by omega
 have hd6 : D + 2 ≤ v2.heap.size := by omega
 clear hd4
 have HK2 := Lib.hid (HK1.out.below hd1 HK1.out.lt)
 have HR2 := Lib.hid (HR1.out.below hd1 HR1.out.lt)
 have HB2 := Lib.hid (HB1.out.trans (hd1.mono (by omega)))
 have HD2 := Lib.hid hd2
 have hDC : C + 2 ≤ D := by omega
 unfold emA at hv2
 simp only [zeroM, zeroE, List.length_nil] at hv2
 clear hd1 hd2 hd3
 go_upto_region 2 with fail
 rw [← hv2]
 clear hv2 hD
 have HKK := HK2.out
 unfold mA at HKK
 obtain ⟨x0, x1, x2, _, _, xf2⟩ := HKK.three
 have lg := HKK.lt
 have HRZ := HR2.out
 unfold zS at HRZ
 obtain ⟨r0, r1, r2, rf0, rf1, rf2⟩ := HRZ.three
 have lr := HRZ.lt
 clear HRZ
 clear HKK
 go_wp2_with fail
 obtain ⟨v9, hv9⟩ : ∃ v9, v9 = put3 v2 (C + 1) (.int .i64 b) (.int .i64 e) (.slice A l.length c) := ⟨_, rfl⟩
 have HP9 : Hid (Only (fun j => j = C + 1) v2 v9) := by show Only _ _ _; rw [hv9]; exact put3_only _ _ _ _ _
 have HQ9 : Hid (Blk v9 (C + 1) #[.int .i64 b, .int .i64 e, .slice A l.length c] 32) := by show Blk _ _ _ _; rw [hv9]; exact put3_blk (by have := HR2.out; unfold zS at this; exact this) _ _ _
 unfold put3 at hv9
 rw [← hv9]
 clear hv9
 obtain ⟨s0, s1, s2, _⟩ := HQ9.out.three
 exact bodyPost_ret (v := .tuple #[.agg #[.int .i64 b, .int .i64 e, .slice A l.length c], .int .i64 E]) (by simp [results, Tryz.results53, go_sem, s0, s1, s2]) rfl ⟨rfl, HCB.out _ (HB2.out.trans (HP9.out.below (fun j hj => by omega) (by omega)))⟩
def touPost (b e : Int) (w : World) (l : List Em) : Ending → World → Prop := fun q w' => ∃ A c, q = .returned (.tuple #[mV b e A l.length c, .int .i64 0]) ∧ Mine w.heap.size 6 w' A l.length c (emL l) ∧ Below w.heap.size w w'
set_option maxRecDepth 100000 in
set_option maxHeartbeats 1000000 in
theorem tou_yes (b e : Int) (k : ByteArray) (d : Int) (hl : RL G w A c l) (hn : l.length ≤ 1000) {i : Nat} (hk : keyOk k) (hf : fnd Em.e l k = some i) {x : Em} (hi : i < l.length) (hx : x = l[i]) :
  Calls Tryz.prog 53 #[mV b e A l.length c, .string k, .int .u64 d] w (touPost b e w (wo l i ++ [withD x d])) := by
 obtain ⟨v0, hv0⟩ : ∃ v0, v0 = (w.alloc (.cells (mA b e A l.length c) 32)).alloc (.cells zS 32) := ⟨_, rfl⟩
 have HT0 : Hid (Bi w v0 w.heap.size (mA b e A l.length c)) := by show Bi _ _ _ _; rw [hv0]; exact bi_new _ _
 obtain ⟨C, hC⟩ : ∃ C, C = w.heap.size := ⟨_, rfl⟩
 rw [← hC] at HT0
 have HLK := Lib.hid (use_yes b e k (hl.below HT0.out.b (by omega)) hn hk hf hi hx)
 have HCB : Hid (∀ v, Below C w v → Below w.heap.size w v) := fun v h => by rw [← hC]; exact h
 have HCC : Hid (w.heap.size ≤ C) := by show _ ≤ _; omega
 have hcm := Rs.max hl.r
 have hcl := Rs.le hl.r
 unfold maxLen at hcm
 have hzC1 := HT0.out.z1; have hzC2 := HT0.out.z2
 have HKK := HT0.out.k
 unfold mA at HKK
 obtain ⟨x0, x1, x2, _, _, xf2⟩ := HKK.three
 have lg := HKK.lt
 have hlm : (wo l i).length ≤ 1000 := by have := wo_len hi; omega
 obtain ⟨m, hm⟩ : ∃ m, m = wo l i := ⟨_, rfl⟩
 unfold usePost at HLK
 unfold touPost
 rw [← hm] at HLK hlm ⊢
 have HSD : Hid ((emL (m ++ [x])).set (m.length * 6 + 3) (.int .u64 d) = emL (m ++ [withD x d])) := set_d m x d
 have HLD : Hid ((m ++ [withD x d]).length = (m ++ [x]).length) := by show _ = _; simp
 have HLM : Hid ((m ++ [x]).length = m.length + 1) := by show _ = _; simp
 rw [HLD.out]
 obtain ⟨M2, hM2⟩ : ∃ M2, M2 = m ++ [withD x d] := ⟨_, rfl⟩
 obtain ⟨M, hM⟩ : ∃ M, M = m ++ [x] := ⟨_, rfl⟩
 rw [← hM, ← hM2] at HSD HLD
 rw [← hM] at HLM HLK ⊢
 rw [← hM2]
 have hml : (M.length : Int) = (m.length : Int) + 1 := by have := HLM.out; omega
 have hmm : (M.length : Int) - 1 = (m.length : Int) := by omega
 have hmi : (m.length : Int) < (M.length : Int) := by omega
 have hm0 : (0 : Int) ≤ (m.length : Int) := by omega
 clear hml hM2
 have HG3 : Hid (∃ u, (emL M)[m.length * 6 + 3]? = some u) := by
  show ∃ u, _
  obtain ⟨_, _, _, g3, _⟩ := emL_get M m.length (by have := HLM.out; omega)
  exact ⟨_, g3⟩
 unfold mA zS at hv0
 unfold mV at HLK ⊢
 unfold emV at HLK
 clear hk hf hl hx HKK hm hM hlm
 go_enter Tryz.func53, Tryz.ntmps53
 go_upto_region 1 with fail
 rw [← hv0, ← hC]
 clear hv0 hC
 go_wp2_with fail
 refine HLK.out.mono ?_
 rintro q w1 ⟨A3, c3, rfl, m3, hb⟩
 have HM3 : Hid (Mine (C + 2) 6 w1 A3 M.length c3 (emL M)) := m3.mono (by omega)
 have HK1 := Lib.hid (HT0.out.k.below hb HT0.out.k.lt)
 have HR1 := Lib.hid (HT0.out.r.below hb HT0.out.r.lt)
 have HB1 := Lib.hid (HT0.out.b.trans (hb.mono (by omega)))
 have hz1 : C + 2 ≤ w1.heap.size := by have := hb.size; omega
 have hc3 := m3.max
 have hc3l := m3.le
 unfold maxLen at hc3
 clear hb x0 x1 x2 xf2 lg m3
 obtain ⟨v2, hv2⟩ : ∃ v2, v2 = (w1.alloc (.cells #[.int .i64 b, .int .i64 e, .slice A3 M.length c3] 32)).alloc (.cells (emA x) 42) := ⟨_, rfl⟩
 have HD := duo_new w1 #[.int .i64 b, .int .i64 e, .slice A3 M.length c3] x
 rw [← hv2] at HD
 obtain ⟨hd1, hd2, hd3, hd4⟩ := HD
 obtain ⟨D, hD⟩ : ∃ D, D = w1.heap.size := ⟨_, rfl⟩
 rw [← hD] at hd2 hd3 hd4
 have hd5 : v2.heap.size ≤ D + 2 := by omega
 have hd6 : D + 2 ≤ v2.heap.size := by omega
 clear hd4
 have HK2 := Lib.hid (HK1.out.below hd1 HK1.out.lt)
 have HR2 := Lib.hid (HR1.out.below hd1 HR1.out.lt)
 have HB2 := Lib.hid (HB1.out.trans (hd1.mono (by omega)))
 have HD2 := Lib.hid hd2
 have hDC : C + 2 ≤ D := by omega
 unfold emA at hv2
 have HM2 := Lib.hid (HM3.out.below hd1 (Nat.le_refl _))
 have HM2D : Hid (∀ a, A3 = some a → a.block < D) := fun a ha => by have := (HM3.out.base ha).2.1; omega
 clear hd1 hd2 hd3
 obtain ⟨u3, hu3⟩ := HG3.out
 obtain ⟨rb, ro, rfl, hb1, hb2⟩ := mine_place HM2.out (by rw [emL_len]; have := HLM.out; omega)
 obtain ⟨m30, m31⟩ := mine_cell HM2.out hu3
 rw [show ro + (m.length * 6 + 3) = ro + m.length * 6 + 3 from by omega] at m30 m31
 have hrD := HM2D.out _ rfl
 simp only at hrD
 go_upto_region 2 with fail
 rw [← hv2, ← hD]
 clear hv2 hD
 obtain ⟨d0, d1, d2, df0, df1, df2⟩ := HD2.out.three
 have ld := HD2.out.lt
 go_upto_region 5 with fail
 obtain ⟨v5, hv5⟩ : ∃ v5, v5 = v2.setCell ⟨rb, ro + m.length * 6 + 3, none⟩ (.int .u64 d) := ⟨_, rfl⟩
 have HP5 : Hid (Only (fun j => j = rb) v2 v5) := by show Only _ _ _; rw [hv5]; exact only_own (F := fun j => j = rb) rfl _
 have HM5 : Hid (Mine (C + 2) 6 v5 (some ⟨rb, ro, none⟩) M.length c3 (emL M2)) := by
  show Mine _ _ _ _ _ _ _
  rw [hv5, show ro + m.length * 6 + 3 = ro + (m.length * 6 + 3) from by omega]
  exact mine_put HM2.out (m.length * 6 + 3) _ (by rw [emL_len]; have := HLM.out; omega) HSD.out
 rw [← hv5]
 have HD5 := Lib.hid (HD2.out.only HP5.out (by omega))
 have HK5 := Lib.hid (HK2.out.only HP5.out (by omega))
 have HR5 := Lib.hid (HR2.out.only HP5.out (by omega))
 have HB5 : Hid (Below C w v5) := HB2.out.trans (HP5.out.below (fun j hj => by omega) (by omega))
 have hz5 := HP5.out.size
 clear hv5 d0 d1 d2 df0 df1 df2 ld m30 m31
 obtain ⟨d0, d1, d2, _, _, _⟩ := HD5.out.three
 have ld := HD5.out.lt
 have HKK := HK5.out
 unfold mA at HKK
 obtain ⟨x0, x1, x2, _, _, xf2⟩ := HKK.three
 have lg := HKK.lt
 have HRZ := HR5.out
 unfold zS at HRZ
 obtain ⟨r0, r1, r2, rf0, rf1, rf2⟩ := HRZ.three
 have lr := HRZ.lt
 clear HRZ
 clear HKK
 go_wp2_with fail
 obtain ⟨v9, hv9⟩ : ∃ v9, v9 = put3 v5 (C + 1) (.int .i64 b) (.int .i64 e) (.slice (some ⟨rb, ro, none⟩) M.length c3) := ⟨_, rfl⟩
 have HP9 : Hid (Only (fun j => j = C + 1) v5 v9) := by show Only _ _ _; rw [hv9]; exact put3_only _ _ _ _ _
 have HQ9 : Hid (Blk v9 (C + 1) #[.int .i64 b, .int .i64 e, .slice (some ⟨rb, ro, none⟩) M.length c3] 32) := by show Blk _ _ _ _; rw [hv9]; exact put3_blk (by have := HR5.out; unfold zS at this; exact this) _ _ _
 unfold put3 at hv9
 rw [← hv9]
 clear hv9
 obtain ⟨s0, s1, s2, _⟩ := HQ9.out.three
 refine bodyPost_ret (v := .tuple #[.agg #[.int .i64 b, .int .i64 e, .slice (some ⟨rb, ro, none⟩) M.length c3], .int .i64 0]) (by simp [results, Tryz.results53, go_sem, s0, s1, s2]) rfl ⟨_, _, rfl, ?_, ?_⟩
 ·have h1 : Mine (C + 2) 6 v9 (some ⟨rb, ro, none⟩) M.length c3 (emL M2) := HM5.out.only HP9.out (fun a ha hf => by have := (HM5.out.base ha).1; omega)
  exact h1.mono (by have := HCC.out; omega)
 ·exact HCB.out _ (HB5.out.trans (HP9.out.below (fun j hj => by omega) (by omega)))
end
end Go.Proofs.YtlmljhnogmfcfaaGreat.Eh
namespace Go.Proofs.YtlmljhnogmfcfaaGreat.Ei
open Go.RowKit Ap Mi Nw Ea Eb Ec Ed Ef Eg Eh

section
variable {G : Nat → Prop} {A : Option Addr} {c : Nat} {l : List Em} {w : World}
set_option maxRecDepth 100000 in
theorem next_any (b e : Int) (hl : RL G w A c l) :
  Calls Tryz.prog 46 #[mV b e A l.length c] w (vPost w (.int .u64 (nextT (l.map Em.e)))) := by
 obtain ⟨v0, hv0⟩ : ∃ v0, v0 = w.alloc (.cells (mA b e A l.length c) 32) := ⟨_, rfl⟩
 have HB0 : Hid (Below w.heap.size w v0) := by show Below _ _ _; rw [hv0]; exact bnew _ _
 have HK0 : Hid (Blk v0 w.heap.size (mA b e A l.length c) 32) := by show Blk _ _ _ _; rw [hv0]; exact Blk.new w _ _
 have HL := Lib.hid (hl.below HB0.out (Nat.le_refl _))
 have hcm := Rs.max hl.r
 have hcl := Rs.le hl.r
 unfold maxLen at hcm
 have HGK : Hid (∀ K (h : K < l.length), (l.map Em.e)[K]? = some l[K].e) := fun K h => by rw [List.getElem?_map, List.getElem?_eq_getElem h]; rfl
 obtain ⟨C, hC⟩ : ∃ C, C = w.heap.size := ⟨_, rfl⟩
 rw [← hC] at HK0
 have HCC : Hid (w.heap.size ≤ C ∧ C ≤ w.heap.size) := by show _ ∧ _; omega
 unfold mA at hv0 HK0
 unfold vPost mV
 clear hl
 have HF : Hid (∀ x ∈ l, Fit x.e) := HL.out.fits
 have HT : Hid (∀ K (h : K < l.length), nextT ((l.map Em.e).take (K + 1)) = min (nextT ((l.map Em.e).take K)) l[K].e.d) := fun K h => by rw [nextT_take (by rw [List.length_map]; exact h)]; simp
 have HE : Hid (nextT ((l.map Em.e).take l.length) = nextT (l.map Em.e)) := by show _ = _; rw [List.take_of_length_le (by simp)]
 have HZ : Hid (nextT ((l.map Em.e).take 0) = 18446744073709551615) := rfl
 obtain ⟨U, hU⟩ : ∃ U : Nat → Int, U = fun K => nextT ((l.map Em.e).take K) := ⟨_, rfl⟩
 replace HT : Hid (∀ K (h : K < l.length), U (K + 1) = min (U K) l[K].e.d) := by show ∀ K h, _; rw [hU]; exact HT.out
 replace HE : Hid (U l.length = nextT (l.map Em.e)) := by show _ = _; rw [hU]; exact HE.out
 replace HZ : Hid (U 0 = 18446744073709551615) := by show _ = _; rw [hU]; exact HZ.out
 clear hU
 obtain ⟨x0, x1, x2, _⟩ := HK0.out.three
 have lg := HK0.out.lt
 go_enter Tryz.func46, Tryz.ntmps46
 go_upto_region 1 with fail
 rw [← hv0, ← hC]
 clear hv0 hC
 go_wp2_with fail
 go_loopw [3, 4] (fun s i wr => ∃ K : Nat, K ≤ l.length ∧ i = .int .i64 (K : Int) ∧ s = .int .u64 (U K) ∧ wr = v0) (fun _ i _ => l.length - (intOf i).toNat)
 case atStart => exact ⟨0, Nat.zero_le _, rfl, by rw [HZ.out], rfl⟩
 case round =>
  obtain ⟨K, hK, rfl, rfl, rfl⟩ := hrel
  by_cases hlt : K < l.length
  ·have j1 : (K : Int) < (l.length : Int) := by omega
   have hs3 := HT.out K hlt
   have HS3 := Lib.hid hs3
   obtain ⟨bb, o, rfl, lb, _, _, _, a3, _, _⟩ := HL.out.at_ hlt
   obtain ⟨y, hy⟩ : ∃ y, y = l[K].e.d := ⟨_, rfl⟩
   rw [← hy] at a3 HS3
   obtain ⟨t, ht⟩ : ∃ t, t = U K := ⟨_, rfl⟩
   rw [← ht] at HS3 ⊢
   clear hy ht hs3
   go_wp2_with fail
   all_goals
    go_roundw
    case rel => exact ⟨K + 1, by omega, by go_num, by rw [HS3.out]; first | rfl | (congr 1; omega), trivial⟩
    case measure => simp [intOf]; omega
  ·obtain rfl : K = l.length := by omega
   have hnn : ¬ (l.length : Int) < l.length := by omega
   clear hlt
   go_wp2_with fail
   go_ret
   exact ⟨retI HE.out, HB0.out⟩
def keysPost (w : World) (l : List ByteArray) : Ending → World → Prop := fun q w' => ∃ A c, q = .returned (.slice A l.length c) ∧ Mine w.heap.size 1 w' A l.length c (strs l) ∧ Below w.heap.size w w'
theorem strs_append (l m : List ByteArray) : strs (l ++ m) = strs l ++ strs m := List.map_append
set_option maxRecDepth 100000 in
theorem keys_any (b e : Int) (hl : RL G w A c l) (hn : l.length ≤ 1000) :
  Calls Tryz.prog 47 #[mV b e A l.length c] w (keysPost w (keysL (l.map Em.e))) := by
 obtain ⟨v0, hv0⟩ : ∃ v0, v0 = w.alloc (.cells (mA b e A l.length c) 32) := ⟨_, rfl⟩
 have HB0 : Hid (Below w.heap.size w v0) := by show Below _ _ _; rw [hv0]; exact bnew _ _
 have HK0 : Hid (Blk v0 w.heap.size (mA b e A l.length c) 32) := by show Blk _ _ _ _; rw [hv0]; exact Blk.new w _ _
 have HL := Lib.hid (hl.below HB0.out (Nat.le_refl _))
 have hcm := Rs.max hl.r
 have hcl := Rs.le hl.r
 unfold maxLen at hcm
 have HGK : Hid (∀ K (h : K < l.length), (l.map Em.e)[K]? = some l[K].e) := fun K h => by rw [List.getElem?_map, List.getElem?_eq_getElem h]; rfl
 obtain ⟨C, hC⟩ : ∃ C, C = w.heap.size := ⟨_, rfl⟩
 rw [← hC] at HK0
 have HCC : Hid (w.heap.size ≤ C ∧ C ≤ w.heap.size) := by show _ ∧ _; omega
 unfold mA at hv0 HK0
 unfold keysPost mV
 clear hl
 have HT : Hid (∀ K (h : K < l.length), keysL ((l.map Em.e).take (K + 1)) = keysL ((l.map Em.e).take K) ++ [l[K].e.k]) := fun K h => by rw [keysL_take (by rw [List.length_map]; exact h)]; simp
 have HE : Hid (keysL ((l.map Em.e).take l.length) = keysL (l.map Em.e)) := by show _ = _; rw [List.take_of_length_le (by simp)]
 have HLN : Hid (∀ K, K ≤ l.length → (keysL ((l.map Em.e).take K)).length = K) := fun K h => by unfold keysL; rw [List.length_map, List.length_take, List.length_map]; omega
 have HZ : Hid (keysL ((l.map Em.e).take 0) = []) := rfl
 obtain ⟨U, hU⟩ : ∃ U : Nat → List ByteArray, U = fun K => keysL ((l.map Em.e).take K) := ⟨_, rfl⟩
 replace HT : Hid (∀ K (h : K < l.length), U (K + 1) = U K ++ [l[K].e.k]) := by show ∀ K h, _; rw [hU]; exact HT.out
 replace HE : Hid (U l.length = keysL (l.map Em.e)) := by show _ = _; rw [hU]; exact HE.out
 replace HLN : Hid (∀ K, K ≤ l.length → (U K).length = K) := by show ∀ K, _ → _; rw [hU]; exact HLN.out
 replace HZ : Hid (U 0 = []) := by show _ = _; rw [hU]; exact HZ.out
 rw [← HE.out]
 clear hU
 obtain ⟨x0, x1, x2, _⟩ := HK0.out.three
 have lg := HK0.out.lt
 go_enter Tryz.func47, Tryz.ntmps47
 go_upto_region 1 with fail
 rw [← hv0, ← hC]
 clear hv0 hC
 go_wp2_with fail
 go_loopw [3, 4] (fun s i wr => ∃ (K : Nat) (D : Option Addr) (d : Nat), K ≤ l.length ∧ i = .int .i64 (K : Int) ∧ s = .slice D K d ∧ Mine v0.heap.size 1 wr D K d (strs (U K)) ∧ Below v0.heap.size v0 wr) (fun _ i _ => l.length - (intOf i).toNat)
 case atStart => exact ⟨0, none, 0, Nat.zero_le _, rfl, rfl, by rw [HZ.out]; exact Mine.nil _ _ _, Below.refl _ _⟩
 case round =>
  obtain ⟨K, D, d, hK, rfl, rfl, hm, hb⟩ := hrel
  have HM := Lib.hid hm; have HB := Lib.hid hb
  have hmx := hm.max
  have hml := hm.le
  unfold maxLen at hmx
  clear hm x0 x1 x2
  obtain ⟨x0, x1, x2, _⟩ := (HK0.out.below hb lg).three
  have lgr : C < wr.heap.size := by have := hb.size; omega
  clear hb
  by_cases hlt : K < l.length
  ·have j1 : (K : Int) < (l.length : Int) := by omega
   have HS3 := Lib.hid (HT.out K hlt)
   obtain ⟨bb, o, rfl, lb, a0, _⟩ := (HL.out.below HB.out (Nat.le_refl _)).at_ hlt
   obtain ⟨y, hy⟩ : ∃ y, y = l[K].e.k := ⟨_, rfl⟩
   rw [← hy] at a0 HS3
   clear hy
   have HSY : Hid (Src Tryz.prog 1 39 (.slice (some ⟨wr.heap.size, 0, none⟩) 1 1) 1 (strs [y]) (wr.alloc (.cells #[.string y] 9))) := src_lit Tryz.underlying39 #[.string y] 1 1 rfl (strs_one [y])
   go_wp2_with (at_builtin; (refine wpList_mine rfl _ _ elS _ rfl rfl (HM.out.below (bnew wr (.cells #[.string y] 9)) (Nat.le_refl _)) _ rfl 1 _ HSY.out (by omega) (by omega) (by have := HB.out.size; simp; omega) ?_))
   intro D2 d2 w2 m2 g2 e2
   have HM2 : Hid (Mine v0.heap.size 1 w2 D2 (K + 1) d2 (strs (U (K + 1)))) := by show Mine _ _ _ _ _ _ _; rw [HS3.out, strs_append]; exact m2
   have HB2 : Hid (Below v0.heap.size v0 w2) := HB.out.trans (((bnew wr (.cells #[.string y] 9)).mono HB.out.size).trans ((only_row (F := fun j => v0.heap.size ≤ j) g2 (fun b hb => (HM.out.base hb).1)).below (fun _ h => h) (by have := HB.out.size; simp; omega)))
   clear m2 g2 e2
   go_wp2_with fail
   go_roundw
   case rel => exact ⟨K + 1, D2, d2, by omega, by go_num, rfl, HM2.out, HB2.out⟩
   case measure => simp [intOf]; omega
  ·obtain rfl : K = l.length := by omega
   have hnn : ¬ (l.length : Int) < l.length := by omega
   clear hlt
   go_wp2_with fail
   go_ret
   exact ⟨D, d, by rw [HLN.out _ (Nat.le_refl _)]; rfl, by rw [HLN.out _ (Nat.le_refl _)]; exact HM.out.mono HB0.out.size, HB0.out.trans (HB.out.mono HB0.out.size)⟩
end
end Go.Proofs.YtlmljhnogmfcfaaGreat.Ei
