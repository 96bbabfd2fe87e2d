/- Proves that the chapter's examples come out as it says (the law's known returns true). No condition. -/
import Derived.Test.YtocfinhbocjbgaaJf
import Derived.Lib.Strings
namespace Go.Proofs.Ytocfinhbocjbgaa.Jg
open Go.RowKit Ap Mi Nw Ja Jb Jc Je Jf

/-- An account of the call's own, and what came before stands still. -/
structure Kn (N : Nat) (w w' : World) (g : Nat) (s : Ac) : Prop where
  t : Ah (fun j => N ≤ j) w' g s
  b : Below N w w'
  z : N ≤ w'.heap.size
section
variable {N : Nat} {w w1 : World} {g : Nat} {s s' : Ac} {e : Int}
theorem Kn.below {w2 : World} (h : Kn N w w1 g s) (hb : Below w1.heap.size w1 w2) : Kn N w w2 g s := ⟨h.t.below hb (Nat.le_refl _), h.b.trans (hb.mono h.z), Nat.le_trans h.z hb.size⟩
theorem Kn.wr (h : Kn N w w1 g s) {v : Value} {q : Ending} {w2 : World} (hp : wrPost (fun j => N ≤ j) w1 g s' v q w2) : q = .returned v ∧ Kn N w w2 g s' :=
  ⟨hp.1, hp.2.1.mono (fun _ _ hf => hf.elim id (fun hf => Nat.le_trans h.z hf)), h.b.trans (hp.2.2.below (fun _ h => h) h.z), Nat.le_trans h.z hp.2.2.size⟩
theorem Kn.add (h : Kn N w w1 g s) (c : Int) (he : addN s c = e) (hl : addT s c = s') :
    Calls Try.prog 14 #[.pointer (some ⟨g, 0, none⟩), .int .i64 c] w1 fun q w2 => q = .returned (.int .i64 e) ∧ Kn N w w2 g s' := by
  subst he; subst hl; exact (Je.add_any h.t c).mono fun _ _ hp => h.wr hp
theorem Kn.rem (h : Kn N w w1 g s) (c : Int) (he : remN s c = e) (hl : remT s c = s') :
    Calls Try.prog 16 #[.pointer (some ⟨g, 0, none⟩), .int .i64 c] w1 fun q w2 => q = .returned (.int .i64 e) ∧ Kn N w w2 g s' := by
  subst he; subst hl; exact (Je.rem_any h.t c).mono fun _ _ hp => h.wr hp
theorem Kn.chg (h : Kn N w w1 g s) (c d : Int) (he : chgN s c d = e) (hl : chgT s c d = s') :
    Calls Try.prog 18 #[.pointer (some ⟨g, 0, none⟩), .int .i64 c, .int .i64 d] w1 fun q w2 => q = .returned (.int .i64 e) ∧ Kn N w w2 g s' := by
  subst he; subst hl; exact (Je.chg_any h.t c d).mono fun _ _ hp => h.wr hp
theorem Kn.fits (h : Kn N w w1 g s) (c : Int) {b : Bool} (he : fitB s c = b) :
    Calls Try.prog 19 #[.pointer (some ⟨g, 0, none⟩), .int .i64 c] w1 fun q w2 => q = .returned (.bool b) ∧ Kn N w w2 g s := by
  subst he; exact (Je.fits_any h.t c).mono fun _ _ ⟨h1, h2⟩ => ⟨h1, h.below h2⟩
theorem Kn.used (h : Kn N w w1 g s) {x n : Int} (hx : s.x = x) (hn : s.n = n) :
    Calls Try.prog 23 #[.pointer (some ⟨g, 0, none⟩), .int .i64 x, .int .i64 n] w1 fun q w2 => q = .returned (.bool true) ∧ Kn N w w2 g s :=
  (used_is h.t hx hn).mono fun _ _ ⟨h1, h2⟩ => ⟨h1, h.below h2⟩
theorem Kn.over (h : Kn N w w1 g s) {x n : Int} (hx : ovB s = x) (hn : ovE s = n) :
    Calls Try.prog 24 #[.pointer (some ⟨g, 0, none⟩), .int .i64 x, .int .i64 n] w1 fun q w2 => q = .returned (.bool true) ∧ Kn N w w2 g s :=
  (over_is h.t hx hn).mono fun _ _ ⟨h1, h2⟩ => ⟨h1, h.below h2⟩
theorem Kn.budget (h : Kn N w w1 g s) {x n : Int} (hx : s.b = x) (hn : s.e = n) :
    Calls Try.prog 25 #[.pointer (some ⟨g, 0, none⟩), .int .i64 x, .int .i64 n] w1 fun q w2 => q = .returned (.bool true) ∧ Kn N w w2 g s :=
  (budget_is h.t hx hn).mono fun _ _ ⟨h1, h2⟩ => ⟨h1, h.below h2⟩
end
/-- Costs at a list of tags that was just laid, or at none. -/
theorem costs_at {W w1 : World} {N : Nat} (h : Below N W w1) (hz : N ≤ w1.heap.size) (k : ByteArray) (n : Nat) {m x y : Int} (hm : (n : Int) = m) (hn : n ≤ 100000) {A : Option Addr} {l : List ByteArray} {c p : Nat} (hp : l.length = p) (hl : Sl w1 A l c) (hll : l.length ≤ 1000) (hlt : ∀ t ∈ l, t.size ≤ 1000000) (hx : costV k n l = x) (hy : costN k n l = y) :
    Calls Try.prog 10 #[.string k, .int .i64 m, .slice A p c, .int .i64 x, .int .i64 y] w1 fun q w2 => q = .returned (.bool true) ∧ Below N W w2 ∧ N ≤ w2.heap.size := by
  subst hm; subst hp
  exact (costs_is k n hl hn hll hlt hx hy).mono fun _ _ ⟨h1, h2⟩ => ⟨h1, h.trans (h2.mono hz), Nat.le_trans hz h2.size⟩
theorem laid (w : World) (l : List ByteArray) (cs : Array Value) (hc : cs.toList = strs l) (hl : l.length ≤ 1000) : Sl (w.alloc (.cells cs 9)) (some ⟨w.heap.size, 0, none⟩) l l.length :=
  Rs.mine (mine_laid w cs (strs l) _ l.length hc (by unfold strs; simp) (by omega))
def tT : ByteArray := ⟨#[116]⟩
def tU : ByteArray := ⟨#[117, 118]⟩
def tA : ByteArray := ⟨#[97]⟩
def tB : ByteArray := ⟨#[98]⟩
theorem lessTU : Op.bytesLess tT.toList tU.toList = true := by rw [Lib.toList_data, Lib.toList_data]; rfl
theorem lessBA : Op.bytesLess tB.toList tA.toList = false := by rw [Lib.toList_data, Lib.toList_data]; rfl
theorem lessAA : Op.bytesLess tA.toList tA.toList = false := by rw [Lib.toList_data]; rfl
theorem ex1 : costV ⟨#[97, 98]⟩ 3 [tT, tU] = 72 ∧ costN ⟨#[97, 98]⟩ 3 [tT, tU] = 0 := by
  have g0 : good [tT, tU] 0 := fun i _ hi => absurd hi (Nat.not_lt_zero _)
  have g1 := good_succ (l := [tT, tU]) (K := 0) (by decide) g0 ⟨by decide, by decide⟩ (fun h => absurd h (Nat.lt_irrefl _))
  have g2 := good_succ (l := [tT, tU]) (K := 1) (by decide) g1 ⟨by decide, by decide⟩ (fun _ => lessTU)
  obtain ⟨h1, h2⟩ := cost_good (k := ⟨#[97, 98]⟩) (vn := 3) (l := [tT, tU]) ⟨⟨by decide, by decide⟩, ⟨by decide, g2⟩⟩ (by decide)
  exact ⟨h1, h2⟩
theorem ex2 : costV ⟨#[]⟩ 0 [] = 0 ∧ costN ⟨#[]⟩ 0 [] = 2 := cost_bad fun h => absurd h.1.1 (by decide)
theorem ok_none : okT [] := ⟨by decide, fun i h => absurd h (Nat.not_lt_zero _)⟩
theorem ex3 : costV ⟨#[107]⟩ 65537 [] = 0 ∧ costN ⟨#[107]⟩ 65537 [] = 5 := cost_long ⟨⟨by decide, by decide⟩, ok_none⟩ (by decide)
theorem ex4 : costV ⟨#[107]⟩ 0 [tB, tA] = 0 ∧ costN ⟨#[107]⟩ 0 [tB, tA] = 2 := cost_bad fun h => by
  have h1 : Op.bytesLess tB.toList tA.toList = true := (h.2.2 1 (by decide) (by decide)).2 (by decide)
  rw [lessBA] at h1; exact absurd h1 (by decide)
theorem ex5 : costV ⟨#[107]⟩ 0 [tA, tA] = 0 ∧ costN ⟨#[107]⟩ 0 [tA, tA] = 2 := cost_bad fun h => by
  have h1 : Op.bytesLess tA.toList tA.toList = true := (h.2.2 1 (by decide) (by decide)).2 (by decide)
  rw [lessAA] at h1; exact absurd h1 (by decide)
set_option maxRecDepth 100000 in
set_option maxHeartbeats 4000000 in
theorem known_any (w : World) : Calls Try.prog 8 #[] w (boolTo true w) := by
  unfold boolTo
  obtain ⟨N, hN⟩ : ∃ N, N = w.heap.size := ⟨_, rfl⟩
  have HN := Lib.hid hN
  rw [← hN]
  clear hN
  go_enter Try.func8, Try.ntmps8
  obtain ⟨v1, hv1⟩ : ∃ v, v = w.alloc (.cells #[.string ⟨#[116]⟩, .string ⟨#[117, 118]⟩] 9) := ⟨_, rfl⟩
  have LA : Hid (Sl v1 (some ⟨w.heap.size, 0, none⟩) [tT, tU] 2) := by show Sl _ _ _ _; rw [hv1]; exact laid _ _ _ rfl (by decide)
  have BA : Hid (Below N w v1 ∧ N ≤ v1.heap.size) := by show _ ∧ _; rw [hv1]; exact ⟨(Below.refl N w).trans ((bnew _ _).mono (Nat.le_of_eq HN.out)), by have := (Nat.le_of_eq HN.out); simp; omega⟩
  go_wp2_with fail
  rw [← hv1]
  clear hv1
  refine (costs_at BA.out.1 BA.out.2 ⟨#[97, 98]⟩ 3 rfl (by decide) (l := [tT, tU]) rfl LA.out (by decide) (by decide) ex1.1 ex1.2).mono ?_
  rintro q w1 ⟨rfl, hb, hz⟩
  have B1 := Lib.hid hb; have Z1 := Lib.hid hz
  clear hb hz
  go_wp2_with fail
  refine (costs_at B1.out Z1.out ⟨#[]⟩ 0 rfl (by decide) (l := []) rfl (Rs.nil _ 1) (by decide) (by decide) ex2.1 ex2.2).mono ?_
  rintro q w2 ⟨rfl, hb, hz⟩
  have B2 := Lib.hid hb; have Z2 := Lib.hid hz
  clear hb hz
  go_wp2_with fail
  refine (costs_at B2.out Z2.out ⟨#[107]⟩ 65537 rfl (by decide) (l := []) rfl (Rs.nil _ 1) (by decide) (by decide) ex3.1 ex3.2).mono ?_
  rintro q w3 ⟨rfl, hb, hz⟩
  have B3 := Lib.hid hb; have Z3 := Lib.hid hz
  clear hb hz
  obtain ⟨v4, hv4⟩ : ∃ v, v = w3.alloc (.cells #[.string ⟨#[98]⟩, .string ⟨#[97]⟩] 9) := ⟨_, rfl⟩
  have LA : Hid (Sl v4 (some ⟨w3.heap.size, 0, none⟩) [tB, tA] 2) := by show Sl _ _ _ _; rw [hv4]; exact laid _ _ _ rfl (by decide)
  have BA : Hid (Below N w v4 ∧ N ≤ v4.heap.size) := by show _ ∧ _; rw [hv4]; exact ⟨B3.out.trans ((bnew _ _).mono Z3.out), by have := Z3.out; simp; omega⟩
  go_wp2_with fail
  rw [← hv4]
  clear hv4
  refine (costs_at BA.out.1 BA.out.2 ⟨#[107]⟩ 0 rfl (by decide) (l := [tB, tA]) rfl LA.out (by decide) (by decide) ex4.1 ex4.2).mono ?_
  rintro q w4 ⟨rfl, hb, hz⟩
  have B4 := Lib.hid hb; have Z4 := Lib.hid hz
  clear hb hz
  obtain ⟨v5, hv5⟩ : ∃ v, v = w4.alloc (.cells #[.string ⟨#[97]⟩, .string ⟨#[97]⟩] 9) := ⟨_, rfl⟩
  have LA : Hid (Sl v5 (some ⟨w4.heap.size, 0, none⟩) [tA, tA] 2) := by show Sl _ _ _ _; rw [hv5]; exact laid _ _ _ rfl (by decide)
  have BA : Hid (Below N w v5 ∧ N ≤ v5.heap.size) := by show _ ∧ _; rw [hv5]; exact ⟨B4.out.trans ((bnew _ _).mono Z4.out), by have := Z4.out; simp; omega⟩
  go_wp2_with fail
  rw [← hv5]
  clear hv5
  refine (costs_at BA.out.1 BA.out.2 ⟨#[107]⟩ 0 rfl (by decide) (l := [tA, tA]) rfl LA.out (by decide) (by decide) ex5.1 ex5.2).mono ?_
  rintro q w5 ⟨rfl, hb, hz⟩
  have B5 := Lib.hid hb; have Z5 := Lib.hid hz
  clear hb hz
  go_wp2_with fail
  refine (new_yes (b := 200) (e := 2) ⟨by omega, by omega, by omega, by omega⟩ w5).mono ?_
  rintro q w6 ⟨g, rfl, ht, hb⟩
  have K6 : Hid (Kn N w w6 g ⟨200, 2, 0, 0⟩) := ⟨ht.mono (fun j _ hj => by have := Z5.out; omega), B5.out.trans (hb.mono Z5.out), by have := Z5.out; have := hb.size; omega⟩
  clear ht hb
  go_wp2_with fail
  refine (K6.out.add (s' := ⟨200, 2, 70, 1⟩) (e := 0) 70 rfl rfl).mono ?_
  rintro q w7 ⟨rfl, hk⟩
  have K7 := Lib.hid hk
  clear hk K6
  go_wp2_with fail
  refine (K7.out.add (s' := ⟨200, 2, 150, 2⟩) (e := 0) 80 rfl rfl).mono ?_
  rintro q w8 ⟨rfl, hk⟩
  have K8 := Lib.hid hk
  clear hk K7
  go_wp2_with fail
  refine (K8.out.over (x := 0) (n := 0) rfl rfl).mono ?_
  rintro q w9 ⟨rfl, hk⟩
  have K9 := Lib.hid hk
  clear hk K8
  go_wp2_with fail
  refine (K9.out.add (s' := ⟨200, 2, 250, 3⟩) (e := 0) 100 rfl rfl).mono ?_
  rintro q w10 ⟨rfl, hk⟩
  have K10 := Lib.hid hk
  clear hk K9
  go_wp2_with fail
  refine (K10.out.used (x := 250) (n := 3) rfl rfl).mono ?_
  rintro q w11 ⟨rfl, hk⟩
  have K11 := Lib.hid hk
  clear hk K10
  go_wp2_with fail
  refine (K11.out.over (x := 50) (n := 1) rfl rfl).mono ?_
  rintro q w12 ⟨rfl, hk⟩
  have K12 := Lib.hid hk
  clear hk K11
  go_wp2_with fail
  refine (K12.out.rem (s' := ⟨200, 2, 179, 2⟩) (e := 0) 71 rfl rfl).mono ?_
  rintro q w13 ⟨rfl, hk⟩
  have K13 := Lib.hid hk
  clear hk K12
  go_wp2_with fail
  refine (K13.out.rem (s' := ⟨200, 2, 109, 1⟩) (e := 0) 70 rfl rfl).mono ?_
  rintro q w14 ⟨rfl, hk⟩
  have K14 := Lib.hid hk
  clear hk K13
  go_wp2_with fail
  refine (K14.out.chg (s' := ⟨200, 2, 109, 1⟩) (e := 9) 80 90 rfl rfl).mono ?_
  rintro q w15 ⟨rfl, hk⟩
  have K15 := Lib.hid hk
  clear hk K14
  go_wp2_with fail
  refine (K15.out.used (x := 109) (n := 1) rfl rfl).mono ?_
  rintro q w16 ⟨rfl, hk⟩
  have K16 := Lib.hid hk
  clear hk K15
  go_wp2_with fail
  refine (K16.out.over (x := 0) (n := 0) rfl rfl).mono ?_
  rintro q w17 ⟨rfl, hk⟩
  have K17 := Lib.hid hk
  clear hk K16
  go_wp2_with fail
  refine (K17.out.fits (b := true) 200 rfl).mono ?_
  rintro q w18 ⟨rfl, hk⟩
  have K18 := Lib.hid hk
  clear hk K17
  go_wp2_with fail
  refine (K18.out.fits (b := false) 201 rfl).mono ?_
  rintro q w19 ⟨rfl, hk⟩
  have K19 := Lib.hid hk
  clear hk K18
  go_wp2_with fail
  refine (K19.out.fits (b := false) 64 rfl).mono ?_
  rintro q w20 ⟨rfl, hk⟩
  have K20 := Lib.hid hk
  clear hk K19
  go_wp2_with fail
  refine (K20.out.chg (s' := ⟨200, 2, 65, 1⟩) (e := 0) 109 65 rfl rfl).mono ?_
  rintro q w21 ⟨rfl, hk⟩
  have K21 := Lib.hid hk
  clear hk K20
  go_wp2_with fail
  refine (K21.out.rem (s' := ⟨200, 2, 65, 1⟩) (e := 9) 66 rfl rfl).mono ?_
  rintro q w22 ⟨rfl, hk⟩
  have K22 := Lib.hid hk
  clear hk K21
  go_wp2_with fail
  refine (K22.out.rem (s' := ⟨200, 2, 0, 0⟩) (e := 0) 65 rfl rfl).mono ?_
  rintro q w23 ⟨rfl, hk⟩
  have K23 := Lib.hid hk
  clear hk K22
  go_wp2_with fail
  refine (K23.out.rem (s' := ⟨200, 2, 0, 0⟩) (e := 9) 65 rfl rfl).mono ?_
  rintro q w24 ⟨rfl, hk⟩
  have K24 := Lib.hid hk
  clear hk K23
  go_wp2_with fail
  refine (K24.out.add (s' := ⟨200, 2, 0, 0⟩) (e := 3) 64 rfl rfl).mono ?_
  rintro q w25 ⟨rfl, hk⟩
  have K25 := Lib.hid hk
  clear hk K24
  go_wp2_with fail
  refine (new_no (b := 0) (e := 1) (fun h => absurd h.1 (by omega)) w25).mono ?_
  rintro q w26 ⟨rfl, hb⟩
  have B1 := Lib.hid (K25.out.b.trans (hb.mono K25.out.z))
  have Z1 : Hid (N ≤ w26.heap.size) := Nat.le_trans K25.out.z hb.size
  clear hb K25
  go_wp2_with fail
  refine (new_no (b := 1) (e := 1048577) (fun h => absurd h.2.2.2 (by omega)) w26).mono ?_
  rintro q w27 ⟨rfl, hb⟩
  have B2 := Lib.hid (B1.out.trans (hb.mono Z1.out))
  clear hb
  go_wp2_with fail
  go_ret
  exact ⟨rfl, B2.out⟩
end Go.Proofs.Ytocfinhbocjbgaa.Jg
