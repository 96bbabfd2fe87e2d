/- Proves what the specification's Next and Keys return. Conditions: as each theorem names them. -/
import Derived.Test.YtlmljhnogmfcfaaGreatRg
import Derived.Test.YtlmljhnogmfcfaaGreatEl
import Derived.Deep.RegionHeld3
namespace Go.Proofs.YtlmljhnogmfcfaaGreat.Ef
open Go.RowKit Ap Mi Nw Ea Eb Ec Ed

theorem rs_pre {w : World} {sz : Nat} {A : Option Addr} {n c : Nat} {xs : List Value} (h : Rs w sz A n c xs) {k : Nat} (hk : k ≤ n) : Rs w sz A k c (xs.take (k * sz)) := by
 have hm : k * sz ≤ n * sz := Nat.mul_le_mul_right _ hk
 have hl := h.len
 refine ⟨fun h0 => ?_, by rw [List.length_take]; omega, Nat.le_trans hk h.le, h.max, h.non⟩
 rw [List.length_take] at h0
 obtain ⟨b, o, e, lb, hc⟩ := h.rd (by omega)
 exact ⟨b, o, e, lb, fun j hj => by rw [List.length_take] at hj; rw [List.getElem_take]; exact hc j (by omega)⟩
theorem rs_cut {w : World} {sz : Nat} {A : Option Addr} {n c : Nat} {xs : List Value} (h : Rs w sz A n c xs) {k : Nat} (hk : k ≤ n) : Rs w sz (cutM A sz k c) (n - k) (c - k) (xs.drop (k * sz)) := by
 have hle := h.le
 have hl := h.len
 refine ⟨fun h0 => ?_, by rw [List.length_drop, hl, Nat.sub_mul], by omega, by have := h.max; omega, fun e => ?_⟩
 ·rw [List.length_drop] at h0
  obtain ⟨b, o, e, lb, hc⟩ := h.rd (by omega)
  subst e
  have hkn : k < n := by
   rcases Nat.lt_or_ge k n with h1 | h1
   ·exact h1
   ·have := Nat.mul_le_mul_right sz h1; omega
  refine ⟨b, o + k * sz, by unfold cutM; rw [if_neg (by omega)]; simp [Nw.add_lit], lb, fun j hj => ?_⟩
  rw [List.length_drop] at hj
  rw [List.getElem_drop, Nat.add_assoc]
  exact hc (k * sz + j) (by omega)
 ·unfold cutM at e
  split at e
  ·omega
  ·rw [Option.map_eq_none_iff] at e; rw [h.non e]; omega
theorem cut_lit (b o K c : Nat) : cutM (some ⟨b, o, none⟩) 6 K c = if c = K then some ⟨b, o, none⟩ else some ⟨b, o + K * 6, none⟩ := by
 unfold cutM
 split
 ·rfl
 ·simp [Nw.add_lit]
theorem only_row {w w' : World} {A : Option Addr} {F : Nat → Prop} (h : w.grownBy w' (A.map (·.block))) (hA : ∀ a, A = some a → F a.block) : Only F w w' :=
 Only.of_grown h (fun k e => by
  cases A with
  | none => cases e
  | some a => simp at e; subst e; exact hA a rfl)
theorem pre_src {w : World} {A : Option Addr} {c : Nat} {l : List Em} (h : Rs w 6 A l.length c (emL l)) {k : Nat} (hk : k ≤ l.length) : Src Tryz.prog 6 30 (.slice A k c) k (emL (l.take k)) w := by
 rw [← emL_take]
 exact (rs_pre h hk).src Tryz.underlying30 (by omega) (by rw [emL_take]; exact emL_one' _)
theorem cut_src {w : World} {A : Option Addr} {c : Nat} {l : List Em} (h : Rs w 6 A l.length c (emL l)) {k : Nat} (hk : k ≤ l.length) : Src Tryz.prog 6 30 (.slice (cutM A 6 k c) (l.length - k) (c - k)) (l.length - k) (emL (l.drop k)) w := by
 rw [← emL_drop]
 exact (rs_cut h hk).src Tryz.underlying30 (by omega) (by rw [emL_drop]; exact emL_one' _)
def rowPost (w : World) (l : List Em) : Ending → World → Prop := fun q w' => ∃ A c, q = .returned (.slice A l.length c) ∧ Mine w.heap.size 6 w' A l.length c (emL l) ∧ Below w.heap.size w w'
set_option maxRecDepth 100000 in
theorem out_any (A : Option Addr) (c : Nat) (l : List Em) (w : World) (hl : Rs w 6 A l.length c (emL l)) (hn : l.length ≤ 1000) {i : Nat} (hi : i < l.length) :
  Calls Tryz.prog 58 #[.slice A l.length c, .int .i64 (i : Int)] w (rowPost w (wo l i)) := by
 have HS := Lib.hid hl
 have hle := Rs.le hl
 have hcm := Rs.max hl
 unfold maxLen at hcm
 obtain ⟨g0, _⟩ := emL_get l i hi
 obtain ⟨b, o, rfl, lb, _⟩ := hl.rd.at_ g0
 have S3 := Lib.hid (pre_src (hl.below ((Below.refl w.heap.size w).drew) (Nat.le_refl _)) (k := i) (by omega))
 clear g0 hl
 have kc : (i : Int) ≤ (c : Int) := by omega
 have kI : (i : Int) ≤ (l.length : Int) := by omega
 have k0 : (0 : Int) ≤ (i : Int) := by omega
 have kc1 : (i : Int) + 1 ≤ (c : Int) := by omega
 have kI1 : (i : Int) + 1 ≤ (l.length : Int) := by omega
 have k01 : (0 : Int) ≤ (i : Int) + 1 := by omega
 have kself : (i : Int) ≤ (i : Int) + 1 := by omega
 have hwr : IntKind.i64.wrap ((i : Int) + 1) = (i : Int) + 1 := by rw [IntKind.wrap_i64]; omega
 have htn : ((i : Int) + 1).toNat = i + 1 := by omega
 unfold rowPost
 by_cases hcK : c = i + 1
 ·have hcS := hcK.symm
  subst hcS
  have S8 : Hid (∀ v, Below w.heap.size w v → Src Tryz.prog 6 30 (.slice (some ⟨b, o, none⟩) 0 ((i + 1) - (i + 1))) 0 (emL (l.drop (i + 1))) v) := fun v hv => by
   have := cut_src (HS.out.below hv (Nat.le_refl _)) (k := i + 1) (by omega)
   rw [cut_lit, if_pos rfl, show l.length - (i + 1) = 0 from by omega] at this
   exact this
  rw [show i + 1 - (i + 1) = 0 from by omega] at S8
  go_enter Tryz.func58, Tryz.ntmps58
  go_wp2_with fail
  refine wp_region_held_drew (S := fun _ => True) (by kernel_rfl) (trivial) (fun hHeld => ?_)
  refine Rg.th 0 (some 5) (v := ?_) rfl (by kernel_rfl) (fun _ _ _ h => h) (by rfl) (by assumption) ?_ ?_
  rotate_left
  ·intro w hSw; go_simp; first | done | with_reducible rfl
  try simp only [Ap.sc]
  refine Rg.th 1 (some 6) (v := ?_) rfl (by kernel_rfl) (fun _ _ _ h => h) (by rfl) (by assumption) ?_ ?_
  rotate_left
  ·intro w hSw; go_simp; first | done | with_reducible rfl
  try simp only [Ap.sc]
  refine Rg.th 2 (some 7) (v := ?_) rfl (by kernel_rfl) (fun _ _ _ h => h) (by rfl) (by assumption) ?_ ?_
  rotate_left
  ·intro w hSw; go_simp; first | done | with_reducible rfl
  try simp only [Ap.sc]
  refine Rg.th 4 (some 9) (v := ?_) rfl (by kernel_rfl) (fun _ _ _ h => h) (by rfl) (by assumption) ?_ ?_
  rotate_left
  ·intro w hSw; go_simp; first | done | with_reducible rfl
  try simp only [Ap.sc]
  refine Rg.th 5 (some 10) (v := ?_) rfl (by kernel_rfl) (fun _ _ _ h => h) (by rfl) (by assumption) ?_ ?_
  rotate_left
  ·intro w hSw; go_simp; first | done | with_reducible rfl
  try simp only [Ap.sc]
  refine Rg.th 6 (some 11) (v := ?_) rfl (by kernel_rfl) (fun _ _ _ h => h) (by rfl) (by assumption) ?_ ?_
  rotate_left
  ·intro w hSw; go_simp; first | done | with_reducible rfl
  try simp only [Ap.sc]
  refine Rg.th 7 (some 12) (v := ?_) rfl (by kernel_rfl) (fun _ _ _ h => h) (by rfl) (by assumption) ?_ ?_
  rotate_left
  ·intro w hSw; go_simp; first | done | with_reducible rfl
  try simp only [Ap.sc]
  refine wpAnyH_ready (rs := [3]) (by kernel_rfl) (by simp) ?_
  refine AllReadyH.cons (o := ⟨some 8, _, _, _, _, _⟩) rfl (fun K hK => ?_) AllReadyH.nil
  refine step_mine (by kernel_rfl) _ _ elE _ rfl rfl (Mine.nil w.heap.size 6 w.drew) _ rfl i _ S3.out (by omega) (by omega) (Nat.le_refl _) ?_
  intro A3 c3 w3 m3 g3 q3
  have B3 : Hid (Below w.heap.size w w3) := ((Below.refl w.heap.size w).drew).trans ((only_row (A := none) (F := fun j => w.heap.size ≤ j) g3 (fun b hb => by cases hb)).below (fun _ h => h) (Nat.le_refl _))
  have M3 : Hid (Mine w.heap.size 6 w3 A3 i c3 (emL (l.take i))) := by
   show Mine _ _ _ _ _ _ _
   rw [Nat.zero_add, List.nil_append] at m3; exact m3
  have S9 := Lib.hid (S8.out _ B3.out)
  have hz3 := B3.out.size
  try simp only [Nat.zero_add]
  clear m3 g3 q3
  refine hK.out _ _ (trivial) (fun hHeld => ?_)
  clear hK K
  try simp only [Ap.sc]
  refine wpAnyH_ready (rs := [8]) (by kernel_rfl) (by simp) ?_
  refine AllReadyH.cons (o := ⟨some 13, _, _, _, _, _⟩) rfl (fun K hK => ?_) AllReadyH.nil
  refine step_mine (by kernel_rfl) _ _ elE _ rfl rfl M3.out _ rfl 0 _ S9.out (by omega) (by omega) hz3 ?_
  intro A6 c6 w6 m6 g6 q6
  have B6 : Hid (Below w.heap.size w w6) := B3.out.trans ((only_row (F := fun j => w.heap.size ≤ j) g6 (fun b hb => (M3.out.base hb).1)).below (fun _ h => h) hz3)
  have el : i + 0 = (wo l i).length := by unfold wo; rw [List.length_append, List.length_take, List.length_drop]; omega
  have M6 : Hid (Mine w.heap.size 6 w6 A6 (wo l i).length c6 (emL (wo l i))) := by
   show Mine _ _ _ _ _ _ _
   rw [← el]; unfold wo; rw [emL_append]; exact m6
  have HEL := Lib.hid el
  clear m6 g6 q6 el
  refine hK.out _ _ (trivial) (fun hHeld => ?_)
  clear hK K
  try simp only [Ap.sc]
  refine Rg.th 9 (some 4) (v := ?_) rfl (by kernel_rfl) (fun _ _ _ h => h) (by rfl) (by assumption) ?_ ?_
  rotate_left
  ·intro w hSw; go_simp; first | done | with_reducible rfl
  try simp only [Ap.sc]
  refine wpAnyH_done (by kernel_rfl) ?_ _
  go_wp2_with fail
  go_ret
  exact ⟨A6, c6, by rw [← HEL.out]; rfl, M6.out, B6.out⟩
 ·have S8 : Hid (∀ v, Below w.heap.size w v → Src Tryz.prog 6 30 (.slice (some ⟨b, o + (i + 1) * 6, none⟩) (l.length - (i + 1)) (c - (i + 1))) (l.length - (i + 1)) (emL (l.drop (i + 1))) v) := fun v hv => by
   have := cut_src (HS.out.below hv (Nat.le_refl _)) (k := i + 1) (by omega)
   rw [cut_lit, if_neg hcK] at this
   exact this
  go_enter Tryz.func58, Tryz.ntmps58
  go_wp2_with fail
  refine wp_region_held_drew (S := fun _ => True) (by kernel_rfl) (trivial) (fun hHeld => ?_)
  refine Rg.th 0 (some 5) (v := ?_) rfl (by kernel_rfl) (fun _ _ _ h => h) (by rfl) (by assumption) ?_ ?_
  rotate_left
  ·intro w hSw; go_simp; first | done | with_reducible rfl
  try simp only [Ap.sc]
  refine Rg.th 1 (some 6) (v := ?_) rfl (by kernel_rfl) (fun _ _ _ h => h) (by rfl) (by assumption) ?_ ?_
  rotate_left
  ·intro w hSw; go_simp; first | done | with_reducible rfl
  try simp only [Ap.sc]
  refine Rg.th 2 (some 7) (v := ?_) rfl (by kernel_rfl) (fun _ _ _ h => h) (by rfl) (by assumption) ?_ ?_
  rotate_left
  ·intro w hSw; go_simp; first | done | with_reducible rfl
  try simp only [Ap.sc]
  refine Rg.th 4 (some 9) (v := ?_) rfl (by kernel_rfl) (fun _ _ _ h => h) (by rfl) (by assumption) ?_ ?_
  rotate_left
  ·intro w hSw; go_simp; first | done | with_reducible rfl
  try simp only [Ap.sc]
  refine Rg.th 5 (some 10) (v := ?_) rfl (by kernel_rfl) (fun _ _ _ h => h) (by rfl) (by assumption) ?_ ?_
  rotate_left
  ·intro w hSw; go_simp; first | done | with_reducible rfl
  try simp only [Ap.sc]
  refine Rg.th 6 (some 11) (v := ?_) rfl (by kernel_rfl) (fun _ _ _ h => h) (by rfl) (by assumption) ?_ ?_
  rotate_left
  ·intro w hSw; go_simp; first | done | with_reducible rfl
  try simp only [Ap.sc]
  refine Rg.th 7 (some 12) (v := ?_) rfl (by kernel_rfl) (fun _ _ _ h => h) (by rfl) (by assumption) ?_ ?_
  rotate_left
  ·intro w hSw; go_simp; first | done | with_reducible rfl
  try simp only [Ap.sc]
  refine wpAnyH_ready (rs := [3]) (by kernel_rfl) (by simp) ?_
  refine AllReadyH.cons (o := ⟨some 8, _, _, _, _, _⟩) rfl (fun K hK => ?_) AllReadyH.nil
  refine step_mine (by kernel_rfl) _ _ elE _ rfl rfl (Mine.nil w.heap.size 6 w.drew) _ rfl i _ S3.out (by omega) (by omega) (Nat.le_refl _) ?_
  intro A3 c3 w3 m3 g3 q3
  have B3 : Hid (Below w.heap.size w w3) := ((Below.refl w.heap.size w).drew).trans ((only_row (A := none) (F := fun j => w.heap.size ≤ j) g3 (fun b hb => by cases hb)).below (fun _ h => h) (Nat.le_refl _))
  have M3 : Hid (Mine w.heap.size 6 w3 A3 i c3 (emL (l.take i))) := by
   show Mine _ _ _ _ _ _ _
   rw [Nat.zero_add, List.nil_append] at m3; exact m3
  have S9 := Lib.hid (S8.out _ B3.out)
  have hz3 := B3.out.size
  try simp only [Nat.zero_add]
  clear m3 g3 q3
  refine hK.out _ _ (trivial) (fun hHeld => ?_)
  clear hK K
  try simp only [Ap.sc]
  refine wpAnyH_ready (rs := [8]) (by kernel_rfl) (by simp) ?_
  refine AllReadyH.cons (o := ⟨some 13, _, _, _, _, _⟩) rfl (fun K hK => ?_) AllReadyH.nil
  refine step_mine (by kernel_rfl) _ _ elE _ rfl rfl M3.out _ rfl (l.length - (i + 1)) _ S9.out (by omega) (by omega) hz3 ?_
  intro A6 c6 w6 m6 g6 q6
  have B6 : Hid (Below w.heap.size w w6) := B3.out.trans ((only_row (F := fun j => w.heap.size ≤ j) g6 (fun b hb => (M3.out.base hb).1)).below (fun _ h => h) hz3)
  have el : i + (l.length - (i + 1)) = (wo l i).length := by unfold wo; rw [List.length_append, List.length_take, List.length_drop]; omega
  have M6 : Hid (Mine w.heap.size 6 w6 A6 (wo l i).length c6 (emL (wo l i))) := by
   show Mine _ _ _ _ _ _ _
   rw [← el]; unfold wo; rw [emL_append]; exact m6
  have HEL := Lib.hid el
  clear m6 g6 q6 el
  refine hK.out _ _ (trivial) (fun hHeld => ?_)
  clear hK K
  try simp only [Ap.sc]
  refine Rg.th 9 (some 4) (v := ?_) rfl (by kernel_rfl) (fun _ _ _ h => h) (by rfl) (by assumption) ?_ ?_
  rotate_left
  ·intro w hSw; go_simp; first | done | with_reducible rfl
  try simp only [Ap.sc]
  refine wpAnyH_done (by kernel_rfl) ?_ _
  go_wp2_with fail
  go_ret
  exact ⟨A6, c6, by rw [← HEL.out]; rfl, M6.out, B6.out⟩
def mV (b e : Int) (A : Option Addr) (n c : Nat) : Value := .agg #[.int .i64 b, .int .i64 e, .slice A n c]
def mA (b e : Int) (A : Option Addr) (n c : Nat) : Array Value := #[.int .i64 b, .int .i64 e, .slice A n c]
section
variable {G : Nat → Prop} {A : Option Addr} {c : Nat} {l : List Em} {w : World}
def put3 (w : World) (r : Nat) (a b c : Value) : World := ((w.setCell ⟨r, 0, none⟩ a).setCell ⟨r, 1, none⟩ b).setCell ⟨r, 2, none⟩ c
theorem put3_blk {w : World} {r : Nat} {p q x : Value} {t : TypeId} (h : Blk w r #[p, q, x] t) (a b c : Value) : Blk (put3 w r a b c) r #[a, b, c] t := ((h.set 0 a).set 1 b).set 2 c
theorem put3_only (w : World) (r : Nat) (a b c : Value) : Only (fun j => j = r) w (put3 w r a b c) :=
 (((Only.refl (fun j => j = r) w).put (ad := ⟨r, 0, none⟩) rfl a).put (ad := ⟨r, 1, none⟩) rfl b).put (ad := ⟨r, 2, none⟩) rfl c
end
end Go.Proofs.YtlmljhnogmfcfaaGreat.Ef
namespace Go.Proofs.YtlmljhnogmfcfaaGreat.Eg
open Go.RowKit Ap Mi Nw Ea Eb Ec Ed Ef

def zS : Array Value := #[.int .i64 0, .int .i64 0, .slice none 0 0]
section
variable {G : Nat → Prop} {A : Option Addr} {c : Nat} {l : List Em} {w : World}
end
end Go.Proofs.YtlmljhnogmfcfaaGreat.Eg
namespace Go.Proofs.YtlmljhnogmfcfaaGreat.Eh
open Go.RowKit Ap Mi Nw Ea Eb Ec Ed Ef Eg

theorem src_lit {w : World} {t e e' : TypeId} (hk : Tryz.prog.underlying t = some (.slice e)) (cs : Array Value) (n sz : Nat) (hn : cs.size = n * sz) (h1 : ∀ u ∈ cs.toList, u.oneCell' = true) : Src Tryz.prog sz t (.slice (some ⟨w.heap.size, 0, none⟩) n n) n cs.toList (w.alloc (.cells cs e')) :=
 Src.ofSlice _ hk _ n n cs.toList (by simpa using hn) (fun j u hu => by
  rw [Nw.add_lit, Nat.zero_add, cell_of_row _ _ j cs e' (0, 0) (heap_alloc_new w _)]; simpa using hu) h1
theorem src_one (w : World) (x : Em) : Src Tryz.prog 6 30 (.slice (some ⟨w.heap.size, 0, none⟩) 1 1) 1 (emC x) (w.alloc (.cells (emA x) 42)) :=
 src_lit Tryz.underlying30 (emA x) 1 6 rfl (by rw [show (emA x).toList = emL [x] from by rw [emL_one]; rfl]; exact emL_one' _)
section
variable {G : Nat → Prop} {A : Option Addr} {c : Nat} {l : List Em} {w : World}
structure Bi (w v : World) (C : Nat) (cs : Array Value) : Prop where
 b : Below C w v
 k : Blk v C cs 32
 r : Blk v (C + 1) zS 32
 z1 : v.heap.size ≤ C + 2
 z2 : C + 2 ≤ v.heap.size
theorem bi_new (w : World) (cs : Array Value) : Bi w ((w.alloc (.cells cs 32)).alloc (.cells zS 32)) w.heap.size cs := by
 refine ⟨(bnew _ _).alloc (by simp) _, (Blk.new w _ _).below (bnew _ _) (by simp), ?_, by simp, by simp⟩
 have := Blk.new (w.alloc (.cells cs 32)) zS 32
 simpa using this
end
end Go.Proofs.YtlmljhnogmfcfaaGreat.Eh
namespace Go.Proofs.YtlmljhnogmfcfaaGreat.Ei
open Go.RowKit Ap Mi Nw Ea Eb Ec Ed Ef Eg Eh

section
variable {G : Nat → Prop} {A : Option Addr} {c : Nat} {l : List Em} {w : World}
set_option maxRecDepth 100000 in
theorem next_any (b e : Int) (hl : RL G w A c l) :
  Calls Tryz.prog 46 #[mV b e A l.length c] w (vPost w (.int .u64 (nextT (l.map Em.e)))) := by
 obtain ⟨v0, hv0⟩ : ∃ v0, v0 = w.alloc (.cells (mA b e A l.length c) 32) := ⟨_, rfl⟩
 have HB0 : Hid (Below w.heap.size w v0) := by show Below _ _ _; rw [hv0]; exact bnew _ _
 have HK0 : Hid (Blk v0 w.heap.size (mA b e A l.length c) 32) := by show Blk _ _ _ _; rw [hv0]; exact Blk.new w _ _
 have HL := Lib.hid (hl.below HB0.out (Nat.le_refl _))
 have hcm := Rs.max hl.r
 have hcl := Rs.le hl.r
 unfold maxLen at hcm
 have HGK : Hid (∀ K (h : K < l.length), (l.map Em.e)[K]? = some l[K].e) := fun K h => by rw [List.getElem?_map, List.getElem?_eq_getElem h]; rfl
 obtain ⟨C, hC⟩ : ∃ C, C = w.heap.size := ⟨_, rfl⟩
 rw [← hC] at HK0
 have HCC : Hid (w.heap.size ≤ C ∧ C ≤ w.heap.size) := by show _ ∧ _; omega
 unfold mA at hv0 HK0
 unfold vPost mV
 clear hl
 have HF : Hid (∀ x ∈ l, Fit x.e) := HL.out.fits
 have HT : Hid (∀ K (h : K < l.length), nextT ((l.map Em.e).take (K + 1)) = min (nextT ((l.map Em.e).take K)) l[K].e.d) := fun K h => by rw [nextT_take (by rw [List.length_map]; exact h)]; simp
 have HE : Hid (nextT ((l.map Em.e).take l.length) = nextT (l.map Em.e)) := by show _ = _; rw [List.take_of_length_le (by simp)]
 have HZ : Hid (nextT ((l.map Em.e).take 0) = 18446744073709551615) := rfl
 obtain ⟨U, hU⟩ : ∃ U : Nat → Int, U = fun K => nextT ((l.map Em.e).take K) := ⟨_, rfl⟩
 replace HT : Hid (∀ K (h : K < l.length), U (K + 1) = min (U K) l[K].e.d) := by show ∀ K h, _; rw [hU]; exact HT.out
 replace HE : Hid (U l.length = nextT (l.map Em.e)) := by show _ = _; rw [hU]; exact HE.out
 replace HZ : Hid (U 0 = 18446744073709551615) := by show _ = _; rw [hU]; exact HZ.out
 clear hU
 obtain ⟨x0, x1, x2, _⟩ := HK0.out.three
 have lg := HK0.out.lt
 go_enter Tryz.func46, Tryz.ntmps46
 go_upto_region 1 with fail
 rw [← hv0, ← hC]
 clear hv0 hC
 go_wp2_with fail
 go_loopw [3, 4] (fun s i wr => ∃ K : Nat, K ≤ l.length ∧ i = .int .i64 (K : Int) ∧ s = .int .u64 (U K) ∧ wr = v0) (fun _ i _ => l.length - (intOf i).toNat)
 case atStart => exact ⟨0, Nat.zero_le _, rfl, by rw [HZ.out], rfl⟩
 case round =>
  obtain ⟨K, hK, rfl, rfl, rfl⟩ := hrel
  by_cases hlt : K < l.length
  ·have j1 : (K : Int) < (l.length : Int) := by omega
   have hs3 := HT.out K hlt
   have HS3 := Lib.hid hs3
   obtain ⟨bb, o, rfl, lb, _, _, _, a3, _, _⟩ := HL.out.at_ hlt
   obtain ⟨y, hy⟩ : ∃ y, y = l[K].e.d := ⟨_, rfl⟩
   rw [← hy] at a3 HS3
   obtain ⟨t, ht⟩ : ∃ t, t = U K := ⟨_, rfl⟩
   rw [← ht] at HS3 ⊢
   clear hy ht hs3
   go_wp2_with fail
   all_goals
    go_roundw
    case rel => exact ⟨K + 1, by omega, by go_num, by rw [HS3.out]; first | rfl | (congr 1; omega), trivial⟩
    case measure => simp [intOf]; omega
  ·obtain rfl : K = l.length := by omega
   have hnn : ¬ (l.length : Int) < l.length := by omega
   clear hlt
   go_wp2_with fail
   go_ret
   exact ⟨retI HE.out, HB0.out⟩
def keysPost (w : World) (l : List ByteArray) : Ending → World → Prop := fun q w' => ∃ A c, q = .returned (.slice A l.length c) ∧ Mine w.heap.size 1 w' A l.length c (strs l) ∧ Below w.heap.size w w'
theorem strs_append (l m : List ByteArray) : strs (l ++ m) = strs l ++ strs m := List.map_append
set_option maxRecDepth 100000 in
theorem keys_any (b e : Int) (hl : RL G w A c l) (hn : l.length ≤ 1000) :
  Calls Tryz.prog 47 #[mV b e A l.length c] w (keysPost w (keysL (l.map Em.e))) := by
 obtain ⟨v0, hv0⟩ : ∃ v0, v0 = w.alloc (.cells (mA b e A l.length c) 32) := ⟨_, rfl⟩
 have HB0 : Hid (Below w.heap.size w v0) := by show Below _ _ _; rw [hv0]; exact bnew _ _
 have HK0 : Hid (Blk v0 w.heap.size (mA b e A l.length c) 32) := by show Blk _ _ _ _; rw [hv0]; exact Blk.new w _ _
 have HL := Lib.hid (hl.below HB0.out (Nat.le_refl _))
 have hcm := Rs.max hl.r
 have hcl := Rs.le hl.r
 unfold maxLen at hcm
 have HGK : Hid (∀ K (h : K < l.length), (l.map Em.e)[K]? = some l[K].e) := fun K h => by rw [List.getElem?_map, List.getElem?_eq_getElem h]; rfl
 obtain ⟨C, hC⟩ : ∃ C, C = w.heap.size := ⟨_, rfl⟩
 rw [← hC] at HK0
 have HCC : Hid (w.heap.size ≤ C ∧ C ≤ w.heap.size) := by show _ ∧ _; omega
 unfold mA at hv0 HK0
 unfold keysPost mV
 clear hl
 have HT : Hid (∀ K (h : K < l.length), keysL ((l.map Em.e).take (K + 1)) = keysL ((l.map Em.e).take K) ++ [l[K].e.k]) := fun K h => by rw [keysL_take (by rw [List.length_map]; exact h)]; simp
 have HE : Hid (keysL ((l.map Em.e).take l.length) = keysL (l.map Em.e)) := by show _ = _; rw [List.take_of_length_le (by simp)]
 have HLN : Hid (∀ K, K ≤ l.length → (keysL ((l.map Em.e).take K)).length = K) := fun K h => by unfold keysL; rw [List.length_map, List.length_take, List.length_map]; omega
 have HZ : Hid (keysL ((l.map Em.e).take 0) = []) := rfl
 obtain ⟨U, hU⟩ : ∃ U : Nat → List ByteArray, U = fun K => keysL ((l.map Em.e).take K) := ⟨_, rfl⟩
 replace HT : Hid (∀ K (h : K < l.length), U (K + 1) = U K ++ [l[K].e.k]) := by show ∀ K h, _; rw [hU]; exact HT.out
 replace HE : Hid (U l.length = keysL (l.map Em.e)) := by show _ = _; rw [hU]; exact HE.out
 replace HLN : Hid (∀ K, K ≤ l.length → (U K).length = K) := by show ∀ K, _ → _; rw [hU]; exact HLN.out
 replace HZ : Hid (U 0 = []) := by show _ = _; rw [hU]; exact HZ.out
 rw [← HE.out]
 clear hU
 obtain ⟨x0, x1, x2, _⟩ := HK0.out.three
 have lg := HK0.out.lt
 go_enter Tryz.func47, Tryz.ntmps47
 go_upto_region 1 with fail
 rw [← hv0, ← hC]
 clear hv0 hC
 go_wp2_with fail
 go_loopw [3, 4] (fun s i wr => ∃ (K : Nat) (D : Option Addr) (d : Nat), K ≤ l.length ∧ i = .int .i64 (K : Int) ∧ s = .slice D K d ∧ Mine v0.heap.size 1 wr D K d (strs (U K)) ∧ Below v0.heap.size v0 wr) (fun _ i _ => l.length - (intOf i).toNat)
 case atStart => exact ⟨0, none, 0, Nat.zero_le _, rfl, rfl, by rw [HZ.out]; exact Mine.nil _ _ _, Below.refl _ _⟩
 case round =>
  obtain ⟨K, D, d, hK, rfl, rfl, hm, hb⟩ := hrel
  have HM := Lib.hid hm; have HB := Lib.hid hb
  have hmx := hm.max
  have hml := hm.le
  unfold maxLen at hmx
  clear hm x0 x1 x2
  obtain ⟨x0, x1, x2, _⟩ := (HK0.out.below hb lg).three
  have lgr : C < wr.heap.size := by have := hb.size; omega
  clear hb
  by_cases hlt : K < l.length
  ·have j1 : (K : Int) < (l.length : Int) := by omega
   have HS3 := Lib.hid (HT.out K hlt)
   obtain ⟨bb, o, rfl, lb, a0, _⟩ := (HL.out.below HB.out (Nat.le_refl _)).at_ hlt
   obtain ⟨y, hy⟩ : ∃ y, y = l[K].e.k := ⟨_, rfl⟩
   rw [← hy] at a0 HS3
   clear hy
   have HSY : Hid (Src Tryz.prog 1 39 (.slice (some ⟨wr.heap.size, 0, none⟩) 1 1) 1 (strs [y]) (wr.alloc (.cells #[.string y] 9))) := src_lit Tryz.underlying39 #[.string y] 1 1 rfl (strs_one [y])
   go_wp2_with (at_builtin; (refine wpList_mine rfl _ _ elS _ rfl rfl (HM.out.below (bnew wr (.cells #[.string y] 9)) (Nat.le_refl _)) _ rfl 1 _ HSY.out (by omega) (by omega) (by have := HB.out.size; simp; omega) ?_))
   intro D2 d2 w2 m2 g2 e2
   have HM2 : Hid (Mine v0.heap.size 1 w2 D2 (K + 1) d2 (strs (U (K + 1)))) := by show Mine _ _ _ _ _ _ _; rw [HS3.out, strs_append]; exact m2
   have HB2 : Hid (Below v0.heap.size v0 w2) := HB.out.trans (((bnew wr (.cells #[.string y] 9)).mono HB.out.size).trans ((only_row (F := fun j => v0.heap.size ≤ j) g2 (fun b hb => (HM.out.base hb).1)).below (fun _ h => h) (by have := HB.out.size; simp; omega)))
   clear m2 g2 e2
   go_wp2_with fail
   go_roundw
   case rel => exact ⟨K + 1, D2, d2, by omega, by go_num, rfl, HM2.out, HB2.out⟩
   case measure => simp [intOf]; omega
  ·obtain rfl : K = l.length := by omega
   have hnn : ¬ (l.length : Int) < l.length := by omega
   clear hlt
   go_wp2_with fail
   go_ret
   exact ⟨D, d, by rw [HLN.out _ (Nat.le_refl _)]; rfl, by rw [HLN.out _ (Nat.le_refl _)]; exact HM.out.mono HB0.out.size, HB0.out.trans (HB.out.mono HB0.out.size)⟩
end
end Go.Proofs.YtlmljhnogmfcfaaGreat.Ei
