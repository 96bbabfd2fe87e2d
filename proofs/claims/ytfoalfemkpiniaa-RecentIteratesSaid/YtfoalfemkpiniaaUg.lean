/- Proves that the chapter's examples come out as it says (the law's known returns true), and the law RecentSlots. No condition but the bounds of its argument. -/
import Derived.Test.YtfoalfemkpiniaaUf
namespace Go.Proofs.Ytfoalfemkpiniaa.Ug
open Go.RowKit Ap Mi Nw Ua Ub Uc Ue Uf

/-- An order of the call's own, and what came before stands still. -/
structure Kn (N : Nat) (w w' : World) (g : Nat) (L : List Int) : Prop where
  t : Rc (fun j => N ≤ j) w' g L
  b : Below N w w'
  z : N ≤ w'.heap.size
section
variable {N : Nat} {w w1 : World} {g : Nat} {L L' : List Int} {e : Int}
theorem Kn.below {w2 : World} (h : Kn N w w1 g L) (hb : Below w1.heap.size w1 w2) : Kn N w w2 g L := ⟨h.t.below hb (Nat.le_refl _), h.b.trans (hb.mono h.z), Nat.le_trans h.z hb.size⟩
theorem Kn.wr (h : Kn N w w1 g L) {q : Ending} {w2 : World} (hp : wrPost (fun j => N ≤ j) w1 g L' e q w2) : q = .returned (.int .i64 e) ∧ Kn N w w2 g L' :=
  ⟨hp.1, hp.2.1.mono (fun _ _ hf => hf.elim id (fun hf => Nat.le_trans h.z hf)), h.b.trans (hp.2.2.below (fun _ h => h) h.z), Nat.le_trans h.z hp.2.2.size⟩
theorem Kn.add (h : Kn N w w1 g L) (n : Int) (he : addN L n = e) (hl : addT L n = L') :
    Calls Try.prog 16 #[.pointer (some ⟨g, 0, none⟩), .int .i64 n] w1 fun q w2 => q = .returned (.int .i64 e) ∧ Kn N w w2 g L' := by
  subst he; subst hl; exact (Ue.add_any h.t n).mono fun _ _ hp => h.wr hp
theorem Kn.use (h : Kn N w w1 g L) (n : Int) (he : remN L n = e) (hl : useT L n = L') :
    Calls Try.prog 13 #[.pointer (some ⟨g, 0, none⟩), .int .i64 n] w1 fun q w2 => q = .returned (.int .i64 e) ∧ Kn N w w2 g L' := by
  subst he; subst hl; exact (Ue.use_any h.t n).mono fun _ _ hp => h.wr hp
theorem Kn.remove (h : Kn N w w1 g L) (n : Int) (he : remN L n = e) (hl : remT L n = L') :
    Calls Try.prog 14 #[.pointer (some ⟨g, 0, none⟩), .int .i64 n] w1 fun q w2 => q = .returned (.int .i64 e) ∧ Kn N w w2 g L' := by
  subst he; subst hl; exact (Ue.remove_any h.t n).mono fun _ _ hp => h.wr hp
theorem Kn.len (h : Kn N w w1 g L) (he : (L.length : Int) = e) :
    Calls Try.prog 19 #[.pointer (some ⟨g, 0, none⟩)] w1 fun q w2 => q = .returned (.int .i64 e) ∧ Kn N w w2 g L := by
  subst he; exact (len_any h.t).mono fun _ _ ⟨h1, h2⟩ => ⟨h1, h.below h2⟩
theorem Kn.has_ (h : Kn N w w1 g L) (n : Int) {b : Bool} (he : decide (n ∈ L) = b) :
    Calls Try.prog 18 #[.pointer (some ⟨g, 0, none⟩), .int .i64 n] w1 fun q w2 => q = .returned (.bool b) ∧ Kn N w w2 g L := by
  subst he; exact (has_any h.t n).mono fun _ _ ⟨h1, h2⟩ => ⟨h1, h.below h2⟩
theorem Kn.oldest (h : Kn N w w1 g L) (x : Int) (hx : oldV L = x) (he : oldN L = e) :
    Calls Try.prog 20 #[.pointer (some ⟨g, 0, none⟩), .int .i64 x, .int .i64 e] w1 fun q w2 => q = .returned (.bool true) ∧ Kn N w w2 g L := by
  subst he; subst hx; exact (oldest_is h.t).mono fun _ _ ⟨h1, h2⟩ => ⟨h1, h.below h2⟩
theorem Kn.next (h : Kn N w w1 g L) (n x : Int) (hx : nextV L n = x) (he : nextN L n = e) :
    Calls Try.prog 17 #[.pointer (some ⟨g, 0, none⟩), .int .i64 n, .int .i64 x, .int .i64 e] w1 fun q w2 => q = .returned (.bool true) ∧ Kn N w w2 g L :=
  (next_is h.t n x e hx he).mono fun _ _ ⟨h1, h2⟩ => ⟨h1, h.below h2⟩
/-- All, at a list that was just laid. -/
theorem Kn.all (h : Kn N w w1 g L) (cs : Array Value) (hc : cs.toList = iv L) (hL : L.length ≤ 1000) {w0 : World} (hw : w1 = w0.alloc (.cells cs 3)) {n : Nat} (hn : L.length = n) :
    Calls Try.prog 21 #[.pointer (some ⟨g, 0, none⟩), .slice (some ⟨w0.heap.size, 0, none⟩) n n] w1 fun q w2 => q = .returned (.bool true) ∧ Kn N w w2 g L := by
  subst hn
  refine (all_true (all_any h.t) (by omega) (A := some ⟨w0.heap.size, 0, none⟩) (c := L.length) ?_).mono fun _ _ ⟨h1, h2⟩ => ⟨h1, h.below h2⟩
  subst hw
  exact Li.mine (mine_laid w0 cs (iv L) _ L.length hc (by rw [iv_len]; omega) (by omega))
theorem Kn.alloc (h : Kn N w w1 g L) (o : Obj) : Kn N w (w1.alloc o) g L := h.below (bnew _ _)
end
set_option maxRecDepth 100000 in
set_option maxHeartbeats 4000000 in
theorem known_any (w : World) : Calls Try.prog 8 #[] w (boolTo true w) := by
  unfold boolTo
  obtain ⟨N, hN⟩ : ∃ N, N = w.heap.size := ⟨_, rfl⟩
  rw [← hN]
  go_enter Try.func8, Try.ntmps8
  go_wp2_with fail
  refine (new_any _).mono ?_
  rintro q w1 ⟨g, rfl, ht, hb⟩
  have K1 : Hid (Kn N w w1 g []) := by show Kn _ _ _ _ _; rw [hN]; exact ⟨ht, hb, hb.size⟩
  clear ht hb hN
  go_wp2_with fail
  refine (K1.out.add (L' := [5]) (e := 0) 5 (by decide) (by decide)).mono ?_
  rintro q w2 ⟨rfl, hk⟩
  have K2 := Lib.hid hk
  clear hk K1
  go_wp2_with fail
  refine (K2.out.add (L' := [5, 2]) (e := 0) 2 (by decide) (by decide)).mono ?_
  rintro q w3 ⟨rfl, hk⟩
  have K3 := Lib.hid hk
  clear hk K2
  go_wp2_with fail
  refine (K3.out.add (L' := [5, 2, 9]) (e := 0) 9 (by decide) (by decide)).mono ?_
  rintro q w4 ⟨rfl, hk⟩
  have K4 := Lib.hid hk
  clear hk K3
  go_wp2_with fail
  refine (K4.out.use (L' := [2, 9, 5]) (e := 0) 5 (by decide) (by decide)).mono ?_
  rintro q w5 ⟨rfl, hk⟩
  have K5 := Lib.hid hk
  clear hk K4
  go_wp2_with fail
  refine ((K5.out.alloc _).all #[.int .i64 2, .int .i64 9, .int .i64 5] rfl (by simp) rfl rfl).mono ?_
  rintro q w6 ⟨rfl, hk⟩
  have K6 := Lib.hid hk
  clear hk K5
  go_wp2_with fail
  refine (K6.out.oldest (e := 0) 2 (by decide) (by decide)).mono ?_
  rintro q w7 ⟨rfl, hk⟩
  have K7 := Lib.hid hk
  clear hk K6
  go_wp2_with fail
  refine (K7.out.next (e := 0) 2 9 (by decide) (by decide)).mono ?_
  rintro q w8 ⟨rfl, hk⟩
  have K8 := Lib.hid hk
  clear hk K7
  go_wp2_with fail
  refine (K8.out.next (e := 16) 5 0 (by decide) (by decide)).mono ?_
  rintro q w9 ⟨rfl, hk⟩
  have K9 := Lib.hid hk
  clear hk K8
  go_wp2_with fail
  refine (K9.out.add (L' := [2, 9, 5]) (e := 11) 9 (by decide) (by decide)).mono ?_
  rintro q w10 ⟨rfl, hk⟩
  have K10 := Lib.hid hk
  clear hk K9
  go_wp2_with fail
  refine (K10.out.use (L' := [2, 9, 5]) (e := 9) 7 (by decide) (by decide)).mono ?_
  rintro q w11 ⟨rfl, hk⟩
  have K11 := Lib.hid hk
  clear hk K10
  go_wp2_with fail
  refine (K11.out.remove (L' := [2, 5]) (e := 0) 9 (by decide) (by decide)).mono ?_
  rintro q w12 ⟨rfl, hk⟩
  have K12 := Lib.hid hk
  clear hk K11
  go_wp2_with fail
  refine (K12.out.remove (L' := [2, 5]) (e := 9) 9 (by decide) (by decide)).mono ?_
  rintro q w13 ⟨rfl, hk⟩
  have K13 := Lib.hid hk
  clear hk K12
  go_wp2_with fail
  refine ((K13.out.alloc _).all #[.int .i64 2, .int .i64 5] rfl (by simp) rfl rfl).mono ?_
  rintro q w14 ⟨rfl, hk⟩
  have K14 := Lib.hid hk
  clear hk K13
  go_wp2_with fail
  refine (K14.out.len (e := 2) rfl).mono ?_
  rintro q w15 ⟨rfl, hk⟩
  have K15 := Lib.hid hk
  clear hk K14
  go_wp2_with fail
  refine (K15.out.has_ (b := false) 9 (by decide)).mono ?_
  rintro q w16 ⟨rfl, hk⟩
  have K16 := Lib.hid hk
  clear hk K15
  go_wp2_with fail
  refine (new_any _).mono ?_
  rintro q w17 ⟨x, rfl, ht, hb⟩
  have hz0 := K16.out.z
  have hz1 := hb.size
  have T0 := Lib.hid (K16.out.t.tight.below hb (Nat.le_refl _))
  have X0 := Lib.hid ht.tight
  have B0 := Lib.hid (K16.out.b.trans (hb.mono K16.out.z))
  clear ht hb K16
  have A0 := Lib.hid (Ue.add_any T0.out (-1))
  unfold wrPost at A0
  rw [show addN [2, 5] (-1) = 2 from by decide] at A0
  go_wp2_with fail
  refine A0.out.mono ?_
  rintro q w18 ⟨rfl, ht, ho⟩
  have O1 := Lib.hid ho
  have hz2 := ho.size
  have A1 := Lib.hid (Ue.add_any ht 1048576)
  unfold wrPost at A1
  rw [show addN (addT [2, 5] (-1)) 1048576 = 2 from by decide] at A1
  clear ht ho A0
  go_wp2_with fail
  refine A1.out.mono ?_
  rintro q w19 ⟨rfl, ht, ho⟩
  have O2 := Lib.hid (O1.out.trans ho)
  have A2 := Lib.hid (Ue.add_any ht 1048575)
  unfold wrPost at A2
  rw [show addN (addT (addT [2, 5] (-1)) 1048576) 1048575 = 0 from by decide] at A2
  clear ht ho A1
  go_wp2_with fail
  refine A2.out.mono ?_
  rintro q w20 ⟨rfl, _, ho⟩
  have O3 : Hid (Only (fun j => N ≤ j ∧ j < w16.heap.size) w17 w20) := O2.out.trans (ho.mono fun j _ hj => by
    rcases hj with (hj | hj) | hj
    · exact Or.inl hj
    · exact Or.inr hj
    · exact Or.inr (by omega))
  have X3 := Lib.hid (X0.out.only O3.out (fun j hj hf => by have := hj.1; have := hf.2; omega))
  have B3 : Hid (Below N w w20) := B0.out.trans (O3.out.below (fun j hj => hj.1) (by omega))
  have hz3 := O3.out.size
  clear ho A2
  go_wp2_with fail
  have HO := Lib.hid (oldest_is X3.out)
  unfold boolTo at HO
  rw [show oldV [] = 0 from rfl, show oldN [] = 9 from rfl] at HO
  refine HO.out.mono ?_
  rintro q w21 ⟨rfl, hb⟩
  have HB := Lib.hid (B3.out.trans (hb.mono (by omega)))
  clear hb HO
  go_wp2_with fail
  go_ret
  exact ⟨rfl, HB.out⟩
theorem known_at {N : Nat} {w w1 : World} {g : Nat} {L : List Int} (h : Kn N w w1 g L) : Calls Try.prog 8 #[] w1 fun q w2 => q = .returned (.bool true) ∧ Kn N w w2 g L :=
  (known_any w1).mono fun _ _ ⟨h1, h2⟩ => ⟨h1, h.below h2⟩
set_option maxRecDepth 100000 in
set_option maxHeartbeats 4000000 in
theorem slots_walk (n : Int) (W : World) : Calls Try.prog 5 #[.int .i64 n] W (boolTo true W) := by
  unfold boolTo
  obtain ⟨N, hN⟩ : ∃ N, N = W.heap.size := ⟨_, rfl⟩
  rw [← hN]
  go_enter Try.func5, Try.ntmps5
  go_wp2_with fail
  refine (new_any _).mono ?_
  rintro q w1 ⟨g, rfl, ht, hb⟩
  have K1 : Hid (Kn N W w1 g []) := by show Kn _ _ _ _ _; rw [hN]; exact ⟨ht, hb, hb.size⟩
  clear ht hb hN
  by_cases hs : Sl n
  · have HS := Lib.hid hs
    have a1 : addN [] n = 0 := by unfold addN; rw [if_neg (by simpa using hs)]; simp
    have a2 : addT [] n = [n] := by unfold addT; rw [if_pos ⟨hs, by simp⟩]; rfl
    have r1 : remN [] n = 9 := by unfold remN; rw [if_neg (by simpa using hs)]; simp
    have r2 : useT [] n = [] := by unfold useT; rw [if_neg (by simp)]
    have r3 : remT [] n = [] := by unfold remT; rw [if_neg (by simp)]
    have n1 : nextN [] n = 9 := by unfold nextN; rw [if_neg (by simpa using hs)]; simp
    have n2 : nextV [] n = 0 := by unfold nextV; rw [n1]; rfl
    have i1 : ixOf [n] n = 0 := by unfold ixOf; simp
    have n3 : nextN [n] n = 16 := by unfold nextN; rw [if_neg (by simpa using hs), if_neg (by simp), i1]; rfl
    have n4 : nextV [n] n = 0 := by unfold nextV; rw [n3]; rfl
    have A1 := Lib.hid a1; have A2 := Lib.hid a2; have R1 := Lib.hid r1; have R2 := Lib.hid r2; have R3 := Lib.hid r3; have N1 := Lib.hid n1; have N2 := Lib.hid n2; have N3 := Lib.hid n3; have N4 := Lib.hid n4
    clear hs a1 a2 r1 r2 r3 n1 n2 i1 n3 n4
    go_wp2_with fail
    refine (slot_yes HS.out _).mono ?_
    rintro e w1 ⟨rfl, rfl⟩
    go_wp2_with fail

    refine (K1.out.use n R1.out R2.out).mono ?_
    rintro q w2 ⟨rfl, hk⟩
    have K2 := Lib.hid hk
    clear hk K1
    go_wp2_with fail
    refine (K2.out.remove n R1.out R3.out).mono ?_
    rintro q w3 ⟨rfl, hk⟩
    have K3 := Lib.hid hk
    clear hk K2
    go_wp2_with fail
    refine (K3.out.next n 0 N2.out N1.out).mono ?_
    rintro q w4 ⟨rfl, hk⟩
    have K4 := Lib.hid hk
    clear hk K3
    go_wp2_with fail
    refine (K4.out.add n A1.out A2.out).mono ?_
    rintro q w5 ⟨rfl, hk⟩
    have K5 := Lib.hid hk
    clear hk K4
    go_wp2_with fail
    refine (K5.out.has_ (b := true) n (by simp)).mono ?_
    rintro q w6 ⟨rfl, hk⟩
    have K6 := Lib.hid hk
    clear hk K5
    go_wp2_with fail
    refine (K6.out.next n 0 N4.out N3.out).mono ?_
    rintro q w7 ⟨rfl, hk⟩
    have K7 := Lib.hid hk
    clear hk K6
    go_wp2_with fail
    refine (K7.out.oldest (e := 0) n rfl rfl).mono ?_
    rintro q w8 ⟨rfl, hk⟩
    have K8 := Lib.hid hk
    clear hk K7
    go_wp2_with fail
    refine (known_at K8.out).mono ?_
    rintro q w9 ⟨rfl, hk⟩
    have HB := Lib.hid hk.b
    clear hk K8
    go_wp2_with fail
    go_ret
    exact ⟨rfl, HB.out⟩
  · have HS := Lib.hid hs
    have a1 : addN [] n = 2 := if_pos hs
    have a2 : addT [] n = [] := if_neg (fun h => hs h.1)
    have r1 : remN [] n = 2 := if_pos hs
    have r2 : useT [] n = [] := by unfold useT; rw [if_neg (by simp)]
    have r3 : remT [] n = [] := by unfold remT; rw [if_neg (by simp)]
    have n1 : nextN [] n = 2 := if_pos hs
    have n2 : nextV [] n = 0 := by unfold nextV; rw [n1]; rfl
    have A1 := Lib.hid a1; have A2 := Lib.hid a2; have R1 := Lib.hid r1; have R2 := Lib.hid r2; have R3 := Lib.hid r3; have N1 := Lib.hid n1; have N2 := Lib.hid n2
    clear hs a1 a2 r1 r2 r3 n1 n2
    go_wp2_with fail
    refine (slot_no HS.out _).mono ?_
    rintro e w1 ⟨rfl, rfl⟩
    go_wp2_with fail
    refine (K1.out.add n A1.out A2.out).mono ?_
    rintro q w2 ⟨rfl, hk⟩
    have K2 := Lib.hid hk
    clear hk K1
    go_wp2_with fail
    refine (K2.out.use n R1.out R2.out).mono ?_
    rintro q w3 ⟨rfl, hk⟩
    have K3 := Lib.hid hk
    clear hk K2
    go_wp2_with fail
    refine (K3.out.remove n R1.out R3.out).mono ?_
    rintro q w4 ⟨rfl, hk⟩
    have K4 := Lib.hid hk
    clear hk K3
    go_wp2_with fail
    refine (K4.out.next n 0 N2.out N1.out).mono ?_
    rintro q w5 ⟨rfl, hk⟩
    have K5 := Lib.hid hk
    clear hk K4
    go_wp2_with fail
    refine (K5.out.has_ (b := false) n (by simp)).mono ?_
    rintro q w6 ⟨rfl, hk⟩
    have K6 := Lib.hid hk
    clear hk K5
    go_wp2_with fail
    refine (K6.out.len (e := 0) rfl).mono ?_
    rintro q w7 ⟨rfl, hk⟩
    have K7 := Lib.hid hk
    clear hk K6
    go_wp2_with fail
    refine (known_at K7.out).mono ?_
    rintro q w9 ⟨rfl, hk⟩
    have HB := Lib.hid hk.b
    clear hk K7
    go_wp2_with fail
    go_ret
    exact ⟨rfl, HB.out⟩
end Go.Proofs.Ytfoalfemkpiniaa.Ug
