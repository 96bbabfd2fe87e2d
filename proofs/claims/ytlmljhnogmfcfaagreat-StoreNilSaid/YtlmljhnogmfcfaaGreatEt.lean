/- Proves what the law's step leaves at any call, and what the law's few returns; words for a list of calls in memory. Conditions: as each theorem names them. -/
import Derived.Test.YtlmljhnogmfcfaaGreatEs
namespace Go.Proofs.YtlmljhnogmfcfaaGreat.Et
open Go.RowKit Ap Mi Nw Rg Ea Eb Ec Ed Ee El Ep Er Es
open Ef (mV mA)

section
variable {F G R : Nat → Prop} {w w' : World} {g : Nat} {s : Sx} {A : Option Addr} {c : Nat} {l : List Em}
noncomputable def actT (n : Int) (x : En) (t : Int) (s : Sx) : Sx :=
 if n = 0 then putT s x else if n = 2 then useT s x.k else if n = 3 then touT s x.k t else if n = 4 then remT s x.k else if n = 5 then expT s t else s
theorem actT_len (n : Int) (x : En) (t : Int) (s : Sx) : (actT n x t s).l.length ≤ s.l.length + 1 := by
 unfold actT
 have h1 := len_p s x
 have hk : ∀ k, (remT s k).l.length ≤ s.l.length + 1 ∧ (useT s k).l.length ≤ s.l.length + 1 ∧ ∀ d, (touT s k d).l.length ≤ s.l.length + 1 := by
  intro k
  unfold remT useT touT
  by_cases h : lookN s k = 0
  ·simp only [if_pos h]
   unfold wo
   simp only [List.length_append, List.length_take, List.length_drop, List.length_cons, List.length_nil]
   refine ⟨by omega, ?_, fun d => ?_⟩ <;>
   ·by_cases hl : (fnd id s.l k).getD 0 < s.l.length <;> omega
  ·simp only [if_neg h]
   exact ⟨by omega, by omega, fun _ => by omega⟩
 split
 ·exact h1
 ·split
  ·exact (hk _).2.1
  ·split
   ·exact (hk _).2.2 t
   ·split
    ·exact (hk _).1
    ·split
     ·have := (exp_len id t s.l).1
      show (expS id t s.l).length ≤ _
      omega
     ·omega
structure Cl where
 n : Int
 x : Em
 t : Int
def clC (a : Cl) : List Value := [.int .i64 a.n, .string a.x.e.k, .slice a.x.A a.x.e.v.length a.x.a, .slice a.x.B a.x.e.t.length a.x.b, .int .u64 a.x.e.d, .int .u64 a.x.e.n, .int .u64 a.x.e.s, .int .u64 a.t]
def clL (l : List Cl) : List Value := l.flatMap clC
theorem clL_get : ∀ (l : List Cl) (k : Nat) (h : k < l.length) (j : Nat), j < 8 → (clL l)[k * 8 + j]? = (clC l[k])[j]?
 | [], _, h, _, _ => by simp at h
 | x :: r, 0, _, j, hj => by
  unfold clL
  rw [List.flatMap_cons, List.getElem?_append_left (by simp [clC]; omega)]; simp
 | x :: r, k + 1, h, j, hj => by
  have := clL_get r k (by simpa using h) j hj
  unfold clL at this ⊢
  rw [List.flatMap_cons, List.getElem?_append_right (by simp [clC]; omega)]
  rw [show (k + 1) * 8 + j - (clC x).length = k * 8 + j from by simp [clC]; omega]
  exact this
theorem rs_only {sz n : Nat} {xs : List Value} (h : Rs w sz A n c xs) (ho : Only F w w') (hn : xs ≠ [] → ∀ a, A = some a → ¬ F a.block) : Rs w' sz A n c xs := by
 cases xs with
 | nil => exact ⟨Rl.nil _ _, h.len, h.le, h.max, h.non⟩
 | cons y r => exact h.only ho (hn (by simp))
structure RX (R : Nat → Prop) (w : World) (x : Em) : Prop where
 r : R0 w x
 v : x.e.v ≠ [] → ∀ a, x.A = some a → R a.block
 t : x.e.t ≠ [] → ∀ a, x.B = some a → R a.block
theorem RX.only {x : Em} (h : RX R w x) (ho : Only F w w') (hn : ∀ j, F j → ¬ R j) : RX R w' x :=
 ⟨⟨rs_only h.r.v ho (fun he a ha hf => hn _ hf (h.v (fun e => he (by rw [e]; rfl)) a ha)), rs_only h.r.t ho (fun he a ha hf => hn _ hf (h.t (fun e => he (by rw [e]; rfl)) a ha)), h.r.k, h.r.e, h.r.d, h.r.n, h.r.s⟩, h.v, h.t⟩
theorem RX.re {x : Em} (h : RX R w x) (hl : lgt x.e) : RE (fun _ => True) w x := h.r.re hl (fun _ _ => trivial) (fun _ _ => trivial)
structure RA (R : Nat → Prop) (w : World) (A : Option Addr) (c : Nat) (l : List Cl) : Prop where
 r : Rs w 8 A l.length c (clL l)
 g : l ≠ [] → ∀ a, A = some a → R a.block
 e : ∀ a ∈ l, RX R w a.x
 t : ∀ a ∈ l, 0 ≤ a.t ∧ a.t < 18446744073709551616
theorem RA.only {l : List Cl} (h : RA R w A c l) (ho : Only F w w') (hn : ∀ j, F j → ¬ R j) : RA R w' A c l :=
 ⟨rs_only h.r ho (fun he a ha hf => hn _ hf (h.g (fun e => he (by rw [e]; rfl)) a ha)), h.g, fun a ha => (h.e a ha).only ho hn, h.t⟩
theorem RA.below {l : List Cl} (h : RA R w A c l) (hb : Below w.heap.size w w') : RA R w' A c l := h.only (Only.of_below hb (Nat.le_refl _) (fun _ => False)) (fun _ hf => hf.elim)
theorem RA.at_ {l : List Cl} (h : RA R w A c l) {k : Nat} (hk : k < l.length) : ∃ b o, A = some ⟨b, o, none⟩ ∧ b < w.heap.size ∧ w.cell? ⟨b, o + k * 8, none⟩ = some (.int .i64 l[k].n) ∧ w.cell? ⟨b, o + k * 8 + 1, none⟩ = some (.string l[k].x.e.k) ∧ w.cell? ⟨b, o + k * 8 + 2, none⟩ = some (.slice l[k].x.A l[k].x.e.v.length l[k].x.a) ∧ w.cell? ⟨b, o + k * 8 + 3, none⟩ = some (.slice l[k].x.B l[k].x.e.t.length l[k].x.b) ∧ w.cell? ⟨b, o + k * 8 + 4, none⟩ = some (.int .u64 l[k].x.e.d) ∧ w.cell? ⟨b, o + k * 8 + 5, none⟩ = some (.int .u64 l[k].x.e.n) ∧ w.cell? ⟨b, o + k * 8 + 6, none⟩ = some (.int .u64 l[k].x.e.s) ∧ w.cell? ⟨b, o + k * 8 + 7, none⟩ = some (.int .u64 l[k].t) := by
 have g0 : (clL l)[k * 8 + 0]? = some (.int .i64 l[k].n) := clL_get l k hk 0 (by omega)
 obtain ⟨b, o, rfl, hb, c0⟩ := h.r.rd.at_ g0
 have key : ∀ (j : Nat) (_ : j < 8) (v : Value), (clC l[k])[j]? = some v → w.cell? ⟨b, o + k * 8 + j, none⟩ = some v := fun j hj v gi => by
  obtain ⟨b', o', e, _, c1⟩ := h.r.rd.at_ ((clL_get l k hk j hj).trans gi)
  injection e with e; injection e with e1 e2; subst e1; subst e2
  rw [Nat.add_assoc]; exact c1
 exact ⟨b, o, rfl, hb, c0, key 1 (by omega) _ rfl, key 2 (by omega) _ rfl, key 3 (by omega) _ rfl, key 4 (by omega) _ rfl, key 5 (by omega) _ rfl, key 6 (by omega) _ rfl, key 7 (by omega) _ rfl⟩
def fewP (l : List Cl) : Prop := l.length ≤ 40 ∧ ∀ a ∈ l, lgt a.x.e
open Classical in
set_option maxRecDepth 100000 in
theorem few_any {l : List Cl} (h : RA R w A c l) :
  Calls Tryz.prog 13 #[.slice A l.length c, .int .i64 40] w (vPost w (.bool (decide (fewP l)))) := by
 have HR := Lib.hid h
 have hcm := Rs.max h.r
 have hcl := Rs.le h.r
 unfold maxLen at hcm
 have HNO : Hid (¬ fewP l → decide (fewP l) = false) := fun h => decide_eq_false h
 have HYE : Hid (fewP l → decide (fewP l) = true) := fun h => decide_eq_true h
 obtain ⟨z, hz⟩ : ∃ z, z = decide (fewP l) := ⟨_, rfl⟩
 rw [← hz] at HNO HYE ⊢
 unfold vPost
 clear h hz
 go_enter Tryz.func13, Tryz.ntmps13
 go_wp2_with fail
 go_loopw [5] (fun i wr => ∃ K : Nat, K ≤ l.length ∧ K ≤ 40 ∧ i = .int .i64 (K : Int) ∧ Hid (∀ i (hi : i < l.length), i < K → lgt l[i].x.e) ∧ Below w.heap.size w wr) (fun i _ => l.length - (intOf i).toNat)
 case atStart => exact ⟨0, Nat.zero_le _, by omega, rfl, (fun i _ hi => by omega), Below.refl _ _⟩
 case round =>
  obtain ⟨K, hK, hK4, rfl, HP, hbl⟩ := hrel
  have HB := Lib.hid hbl
  clear hbl
  by_cases hlt : K < l.length
  ·have j1 : decide ((K : Int) < (l.length : Int)) = true := by simp; omega
   have j1n : decide (K < l.length) = true := by simp; omega
   by_cases h4 : K < 40
   ·have j2 : decide ((K : Int) < 40) = true := by simp; omega
    have j3 : (K : Int) < (l.length : Int) := by omega
    have j4 : (K : Int) < 40 := by omega
    obtain ⟨y, hy⟩ : ∃ y, y = l[K] := ⟨_, rfl⟩
    have hat := (HR.out.below HB.out).at_ hlt
    rw [← hy] at hat
    obtain ⟨b, o, eA, lb, a0, a1, a2, a3, a4, a5, a6, a7⟩ := hat
    have HRB : Hid (Rs wr 8 A l.length c (clL l)) := (HR.out.below HB.out).r
    have HRY : Hid (R0 wr y.x) := by show R0 _ _; rw [hy]; exact ((HR.out.below HB.out).e _ (List.getElem_mem hlt)).r
    have HLI := Lib.hid (light_any y.x wr HRY.out)
    have HY := Lib.hid hy
    clear hy
    subst eA
    unfold vPost emV at HLI
    by_cases hg : lgt y.x.e
    ·rw [decide_eq_true hg] at HLI
     have HP2 : Hid (∀ i (hi : i < l.length), i < K + 1 → lgt l[i].x.e) := fun i hi hiK => by
      by_cases ei : i = K
      ·subst ei; rw [← HY.out]; exact hg
      ·exact HP.out i hi (by omega)
     clear h4 hg
     go_wp2_with fail
     refine HLI.out.mono ?_
     rintro q w2 ⟨rfl, hb⟩
     have HB2 := Lib.hid (bstep HB.out hb)
     clear hb
     go_wp2_with fail
     go_roundw
     case rel => exact ⟨K + 1, by omega, by omega, by go_num, HP2, HB2.out⟩
     case measure => simp [intOf]; omega
    ·rw [decide_eq_false hg] at HLI
     have HZ := Lib.hid (HNO.out (fun hf => hg (by have := hf.2 _ (List.getElem_mem hlt); rw [← HY.out] at this; exact this)))
     clear h4 hg
     go_wp2_with fail
     refine HLI.out.mono ?_
     rintro q w2 ⟨rfl, hb⟩
     have HB2 := Lib.hid (bstep HB.out hb)
     clear hb
     go_wp2_with fail
     go_ret
     exact ⟨retB HZ.out.symm, HB2.out⟩
   ·have j2 : decide ((K : Int) < 40) = false := by simp; omega
    have j3 : (K : Int) < (l.length : Int) := by omega
    have j4 : ¬ (K : Int) < 40 := by omega
    have j5 : decide ((l.length : Int) ≤ 40) = false := by simp; omega
    have j6 : ¬ (l.length : Int) ≤ 40 := by omega
    have HZ := Lib.hid (HNO.out (fun hf => by have := hf.1; omega))
    clear h4
    go_wp2_with fail
    go_ret
    exact ⟨retB HZ.out.symm, HB.out⟩
  ·obtain rfl : K = l.length := by omega
   have j1 : decide ((l.length : Int) < (l.length : Int)) = false := by simp
   have j1n : decide (l.length < l.length) = false := by simp
   have hnn : ¬ (l.length : Int) < l.length := by omega
   have j5 : (l.length : Int) ≤ 40 := by omega
   have HZ := Lib.hid (HYE.out ⟨hK4, fun a ha => by
    obtain ⟨i, hi, rfl⟩ := List.getElem_of_mem ha
    exact HP.out i hi hi⟩)
   clear hlt
   go_wp2_with fail
   go_ret
   exact ⟨retB HZ.out.symm, HB.out⟩
end
end Go.Proofs.YtlmljhnogmfcfaaGreat.Et
