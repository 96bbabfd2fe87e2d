/- Proves that the chapter's examples come out as it says (the law's known returns true), and the law ExpirySlots. No condition but the bounds of its arguments. -/
import Derived.Test.YtpalbccoiejmoaaYh
namespace Go.Proofs.Ytpalbccoiejmoaa.Yi
open Go.RowKit Ap Mi Nw Ya Yb Yc Yd Ye Yf Yg Yh

/-- A heap of the call's own, and what came before stands still. -/
structure Kn (N : Nat) (w w' : World) (g : Nat) (L : List Td) : Prop where
  t : Hp (fun j => N ≤ j) w' g L
  b : Below N w w'
  z : N ≤ w'.heap.size
section
variable {N : Nat} {w w1 : World} {g : Nat} {L L' : List Td} {e : Int}
theorem Kn.below {w2 : World} (h : Kn N w w1 g L) (hb : Below w1.heap.size w1 w2) : Kn N w w2 g L := ⟨h.t.below hb (Nat.le_refl _), h.b.trans (hb.mono h.z), Nat.le_trans h.z hb.size⟩
theorem Kn.wr (h : Kn N w w1 g L) {v : Value} {q : Ending} {w2 : World} (hp : wrPost (fun j => N ≤ j) w1 g L' v q w2) : q = .returned v ∧ Kn N w w2 g L' :=
  ⟨hp.1, hp.2.1.mono (fun _ _ hf => hf.elim id (fun hf => Nat.le_trans h.z hf)), h.b.trans (hp.2.2.below (fun _ h => h) h.z), Nat.le_trans h.z hp.2.2.size⟩
theorem Kn.put (h : Kn N w w1 g L) (n a : Int) (ha : Tm a) (he : putN L n = e) (hl : putT L n a = L') :
    Calls Try.prog 13 #[.pointer (some ⟨g, 0, none⟩), .int .i64 n, .int .u64 a] w1 fun q w2 => q = .returned (.int .i64 e) ∧ Kn N w w2 g L' := by
  subst he; subst hl; exact (Ye.put_any h.t n a ha).mono fun _ _ hp => h.wr hp
theorem Kn.move (h : Kn N w w1 g L) (n a : Int) (ha : Tm a) (he : remN L n = e) (hl : movT L n a = L') :
    Calls Try.prog 21 #[.pointer (some ⟨g, 0, none⟩), .int .i64 n, .int .u64 a] w1 fun q w2 => q = .returned (.int .i64 e) ∧ Kn N w w2 g L' := by
  subst he; subst hl; exact (Ye.move_any h.t n a ha).mono fun _ _ hp => h.wr hp
theorem Kn.removes (h : Kn N w w1 g L) (n y : Int) (hy : remA L n = y) (he : remN L n = e) (hl : remT L n = L') :
    Calls Try.prog 15 #[.pointer (some ⟨g, 0, none⟩), .int .i64 n, .int .u64 y, .int .i64 e] w1 fun q w2 => q = .returned (.bool true) ∧ Kn N w w2 g L' := by
  subst hl; exact (removes_is h.t n y e hy he).mono fun _ _ hp => h.wr hp
theorem Kn.gets (h : Kn N w w1 g L) (n y : Int) (hy : remA L n = y) (he : remN L n = e) :
    Calls Try.prog 22 #[.pointer (some ⟨g, 0, none⟩), .int .i64 n, .int .u64 y, .int .i64 e] w1 fun q w2 => q = .returned (.bool true) ∧ Kn N w w2 g L :=
  (gets_is h.t n y e hy he).mono fun _ _ ⟨h1, h2⟩ => ⟨h1, h.below h2⟩
theorem Kn.first (h : Kn N w w1 g L) (x y : Int) (hx : oldV L = (x, y)) (he : oldN L = e) :
    Calls Try.prog 14 #[.pointer (some ⟨g, 0, none⟩), .agg #[.int .i64 x, .int .u64 y], .int .i64 e] w1 fun q w2 => q = .returned (.bool true) ∧ Kn N w w2 g L := by
  have := first_is h.t
  rw [hx, he] at this
  exact this.mono fun _ _ ⟨h1, h2⟩ => ⟨h1, h.below h2⟩
theorem Kn.len (h : Kn N w w1 g L) (he : (L.length : Int) = e) :
    Calls Try.prog 23 #[.pointer (some ⟨g, 0, none⟩)] w1 fun q w2 => q = .returned (.int .i64 e) ∧ Kn N w w2 g L := by
  subst he; exact (len_any h.t).mono fun _ _ ⟨h1, h2⟩ => ⟨h1, h.below h2⟩
theorem Kn.alloc (h : Kn N w w1 g L) (o : Obj) : Kn N w (w1.alloc o) g L := h.below (bnew _ _)
theorem Kn.dues0 (h : Kn N w w1 g L) (now : Int) (hM : L.take (dueK L now) = []) (hl : L.drop (dueK L now) = L') :
    Calls Try.prog 17 #[.pointer (some ⟨g, 0, none⟩), .int .u64 now, .slice none 0 0, .int .i64 0] w1 fun q w2 => q = .returned (.bool true) ∧ Kn N w w2 g L' := by
  subst hl
  refine (dues_is h.t now (M := []) hM.symm (Lt.nil w1) (fun b hb => by cases hb)).mono ?_
  rintro q w2 ⟨F', rfl, hr, hF', ho⟩
  exact ⟨rfl, hr.mono (fun j _ hj => (hF' j hj).elim id (fun hj => Nat.le_trans h.z hj)), h.b.trans (ho.below (fun _ h => h) h.z), Nat.le_trans h.z ho.size⟩
theorem Kn.dues1 (h : Kn N w w1 g L) (now : Int) {M : List Td} (hM : M = L.take (dueK L now)) (hl : L.drop (dueK L now) = L') (cs : Array Value) (hc : cs.toList = tv M) {w2 : World} (hw : w2 = w1.alloc (.cells cs 41)) {n : Nat} (hn : M.length = n) (hns : n ≤ 1000) :
    Calls Try.prog 17 #[.pointer (some ⟨g, 0, none⟩), .int .u64 now, .slice (some ⟨w1.heap.size, 0, none⟩) n n, .int .i64 0] w2 fun q w3 => q = .returned (.bool true) ∧ Kn N w w3 g L' := by
  subst hl; subst hn
  have hb : Below w1.heap.size w1 w2 := by rw [hw]; exact bnew _ _
  have ht := h.t.tight.below hb (Nat.le_refl _)
  have hB : Lt w2 (some ⟨w1.heap.size, 0, none⟩) M M.length := by
    rw [hw]; exact Lt.mine (mine_laid w1 cs (tv M) _ M.length hc (by rw [tv_len]) (by omega))
  have hz := hb.size; have hz0 := h.z
  refine (dues_is ht now hM hB (fun b hb hf => by injection hb with hb; subst hb; have := hf.2; simp at this)).mono ?_
  rintro q w3 ⟨F', rfl, hr, hF', ho⟩
  refine ⟨rfl, hr.mono (fun j _ hj => (hF' j hj).elim (fun h => h.1) (fun hj => by omega)), (h.b.trans (hb.mono h.z)).trans (ho.below (fun _ h => h.1) (by omega)), by have := ho.size; omega⟩
theorem Kn.list (h : Kn N w w1 g L) {n : Nat} (hn : L.length = n) :
    Calls Try.prog 19 #[.pointer (some ⟨g, 0, none⟩)] w1 fun q w2 => ∃ A c, q = .returned (.slice A n c) ∧ Kn N w w2 g L ∧ Lt w2 A L c := by
  subst hn
  refine (list_any h.t).mono ?_
  rintro q w2 ⟨A, c, rfl, hm, hb⟩
  exact ⟨A, c, rfl, h.below hb, Lt.mine hm⟩
theorem Kn.same (h : Kn N w w1 g L) {A : Option Addr} {c : Nat} (hA : Lt w1 A L c) (cs : Array Value) (hc : cs.toList = tv L) {w2 : World} (hw : w2 = w1.alloc (.cells cs 41)) {n : Nat} (hn : L.length = n) (hns : n ≤ 1000) :
    Calls Try.prog 18 #[.slice A n c, .slice (some ⟨w1.heap.size, 0, none⟩) n n] w2 fun q w3 => q = .returned (.bool true) ∧ Kn N w w3 g L := by
  subst hn
  have hb : Below w1.heap.size w1 w2 := by rw [hw]; exact bnew _ _
  have hB : Lt w2 (some ⟨w1.heap.size, 0, none⟩) L L.length := by
    rw [hw]; exact Lt.mine (mine_laid w1 cs (tv L) _ L.length hc (by rw [tv_len]) (by omega))
  refine (same_true rfl (hA.below hb (Nat.le_refl _)) hB (by omega)).mono ?_
  rintro q w3 ⟨rfl, hb3⟩
  exact ⟨rfl, (h.below hb).below hb3⟩
end
set_option maxRecDepth 100000 in
set_option maxHeartbeats 4000000 in
theorem known_any (w : World) : Calls Try.prog 8 #[] w (boolTo true w) := by
  unfold boolTo
  obtain ⟨N, hN⟩ : ∃ N, N = w.heap.size := ⟨_, rfl⟩
  rw [← hN]
  go_enter Try.func8, Try.ntmps8
  go_wp2_with fail
  refine (new_any _).mono ?_
  rintro q w1 ⟨g, rfl, ht, hb⟩
  have K1 : Hid (Kn N w w1 g []) := by show Kn _ _ _ _ _; rw [hN]; exact ⟨ht, hb, hb.size⟩
  clear ht hb hN
  go_wp2_with fail
  refine (K1.out.put (L' := [(4, 9)]) (e := 0) 4 9 ⟨by omega, by omega⟩ (by decide) (by decide)).mono ?_
  rintro q w2 ⟨rfl, hk⟩
  have K2 := Lib.hid hk
  clear hk K1
  go_wp2_with fail
  refine (K2.out.put (L' := [(2, 9), (4, 9)]) (e := 0) 2 9 ⟨by omega, by omega⟩ (by decide) (by decide)).mono ?_
  rintro q w3 ⟨rfl, hk⟩
  have K3 := Lib.hid hk
  clear hk K2
  go_wp2_with fail
  refine (K3.out.put (L' := [(7, 5), (2, 9), (4, 9)]) (e := 0) 7 5 ⟨by omega, by omega⟩ (by decide) (by decide)).mono ?_
  rintro q w4 ⟨rfl, hk⟩
  have K4 := Lib.hid hk
  clear hk K3
  go_wp2_with fail
  refine (K4.out.put (L' := [(7, 5), (2, 9), (4, 9), (1, 18446744073709551615)]) (e := 0) 1 18446744073709551615 ⟨by omega, by omega⟩ (by decide) (by decide)).mono ?_
  rintro q w5 ⟨rfl, hk⟩
  have K5 := Lib.hid hk
  clear hk K4
  go_wp2_with fail
  refine (K5.out.put (L' := [(7, 5), (2, 9), (4, 9), (1, 18446744073709551615)]) (e := 11) 4 1 ⟨by omega, by omega⟩ (by decide) (by decide)).mono ?_
  rintro q w6 ⟨rfl, hk⟩
  have K6 := Lib.hid hk
  clear hk K5
  go_wp2_with fail
  refine (K6.out.first (e := 0) 7 5 rfl (by decide)).mono ?_
  rintro q w7 ⟨rfl, hk⟩
  have K7 := Lib.hid hk
  clear hk K6
  go_wp2_with fail
  refine (K7.out.list (n := 4) rfl).mono ?_
  rintro q w8 ⟨A, c, rfl, hk, hA⟩
  have K8 := Lib.hid hk; have HA := Lib.hid hA
  clear hk hA K7
  go_wp2_with fail
  refine (K8.out.same HA.out #[.int .i64 7, .int .u64 5, .int .i64 2, .int .u64 9, .int .i64 4, .int .u64 9, .int .i64 1, .int .u64 18446744073709551615] rfl rfl rfl (by decide)).mono ?_
  rintro q w9 ⟨rfl, hk⟩
  have K9 := Lib.hid hk
  clear hk K8 HA
  go_wp2_with fail
  refine (K9.out.move (L' := [(2, 9), (4, 9), (7, 9), (1, 18446744073709551615)]) (e := 0) 7 9 ⟨by omega, by omega⟩ (by decide) (by decide)).mono ?_
  rintro q w10 ⟨rfl, hk⟩
  have K10 := Lib.hid hk
  clear hk K9
  go_wp2_with fail
  refine (K10.out.gets (e := 0) 7 9 (by decide) (by decide)).mono ?_
  rintro q w11 ⟨rfl, hk⟩
  have K11 := Lib.hid hk
  clear hk K10
  go_wp2_with fail
  refine (K11.out.dues0 (L' := [(2, 9), (4, 9), (7, 9), (1, 18446744073709551615)]) 8 (by decide) (by decide)).mono ?_
  rintro q w12 ⟨rfl, hk⟩
  have K12 := Lib.hid hk
  clear hk K11
  go_wp2_with fail
  refine (K12.out.dues1 (L' := [(1, 18446744073709551615)]) 9 (M := [(2, 9), (4, 9), (7, 9)]) (by decide) (by decide) #[.int .i64 2, .int .u64 9, .int .i64 4, .int .u64 9, .int .i64 7, .int .u64 9] rfl rfl rfl (by decide)).mono ?_
  rintro q w13 ⟨rfl, hk⟩
  have K13 := Lib.hid hk
  clear hk K12
  go_wp2_with fail
  refine (K13.out.len (e := 1) rfl).mono ?_
  rintro q w14 ⟨rfl, hk⟩
  have K14 := Lib.hid hk
  clear hk K13
  go_wp2_with fail
  refine (K14.out.dues0 (L' := [(1, 18446744073709551615)]) 18446744073709551615 (by decide) (by decide)).mono ?_
  rintro q w15 ⟨rfl, hk⟩
  have K15 := Lib.hid hk
  clear hk K14
  go_wp2_with fail
  refine (K15.out.first (e := 0) 1 18446744073709551615 rfl (by decide)).mono ?_
  rintro q w16 ⟨rfl, hk⟩
  have K16 := Lib.hid hk
  clear hk K15
  go_wp2_with fail
  refine (K16.out.removes (L' := []) (e := 0) 1 18446744073709551615 (by decide) (by decide) (by decide)).mono ?_
  rintro q w17 ⟨rfl, hk⟩
  have K17 := Lib.hid hk
  clear hk K16
  go_wp2_with fail
  refine (K17.out.removes (L' := []) (e := 9) 1 0 (by decide) (by decide) (by decide)).mono ?_
  rintro q w18 ⟨rfl, hk⟩
  have K18 := Lib.hid hk
  clear hk K17
  go_wp2_with fail
  refine (K18.out.first (e := 9) 0 0 rfl (by decide)).mono ?_
  rintro q w19 ⟨rfl, hk⟩
  have K19 := Lib.hid hk
  clear hk K18
  go_wp2_with fail
  refine (K19.out.put (L' := []) (e := 2) (-1) 0 ⟨by omega, by omega⟩ (by decide) (by decide)).mono ?_
  rintro q w20 ⟨rfl, hk⟩
  have K20 := Lib.hid hk
  clear hk K19
  go_wp2_with fail
  refine (K20.out.put (L' := []) (e := 2) 1048576 0 ⟨by omega, by omega⟩ (by decide) (by decide)).mono ?_
  rintro q w21 ⟨rfl, hk⟩
  have K21 := Lib.hid hk
  clear hk K20
  go_wp2_with fail
  refine (K21.out.move (L' := []) (e := 9) 3 1 ⟨by omega, by omega⟩ (by decide) (by decide)).mono ?_
  rintro q w22 ⟨rfl, hk⟩
  have K22 := Lib.hid hk
  clear hk K21
  go_wp2_with fail
  go_ret
  exact ⟨rfl, K22.out.b⟩
theorem known_at {N : Nat} {w w1 : World} {g : Nat} {L : List Td} (h : Kn N w w1 g L) : Calls Try.prog 8 #[] w1 fun q w2 => q = .returned (.bool true) ∧ Kn N w w2 g L :=
  (known_any w1).mono fun _ _ ⟨h1, h2⟩ => ⟨h1, h.below h2⟩
set_option maxRecDepth 100000 in
set_option maxHeartbeats 4000000 in
theorem slots_walk (n t : Int) (ht : Tm t) (W : World) : Calls Try.prog 5 #[.int .i64 n, .int .u64 t] W (boolTo true W) := by
  unfold boolTo
  have HT := Lib.hid ht
  clear ht
  obtain ⟨N, hN⟩ : ∃ N, N = W.heap.size := ⟨_, rfl⟩
  rw [← hN]
  go_enter Try.func5, Try.ntmps5
  go_wp2_with fail
  refine (new_any _).mono ?_
  rintro q w1 ⟨g, rfl, ht, hb⟩
  have K1 : Hid (Kn N W w1 g []) := by show Kn _ _ _ _ _; rw [hN]; exact ⟨ht, hb, hb.size⟩
  clear ht hb hN
  by_cases hs : Sl n
  · have HS := Lib.hid hs
    have A1 : Hid (putN [] n = 0 ∧ putT [] n t = [(n, t)]) := ⟨by unfold putN; rw [if_neg (by simpa using hs)]; simp [ns], by unfold putT; rw [if_pos ⟨hs, by simp [ns]⟩]; rfl⟩
    have A2 : Hid (putN [(n, t)] n = 11 ∧ putT [(n, t)] n t = [(n, t)]) := ⟨by unfold putN; rw [if_neg (by simpa using hs)]; simp [ns], by unfold putT; rw [if_neg (by simp [ns])]⟩
    have R1 : Hid (remN [] n = 9 ∧ remT [] n = [] ∧ remA [] n = 0 ∧ movT [] n t = []) := ⟨by unfold remN; rw [if_neg (by simpa using hs)]; simp [ns], by unfold remT; rw [if_neg (by simp [ns])], by unfold remA; rw [if_neg (by simp [ns])], by unfold movT; rw [if_neg (by simp [ns])]⟩
    have R2 : Hid (remN [(n, t)] n = 0 ∧ remT [(n, t)] n = [] ∧ remA [(n, t)] n = t) := ⟨by unfold remN; rw [if_neg (by simpa using hs)]; simp [ns], by unfold remT; rw [if_pos ⟨hs, by simp [ns]⟩]; simp [wo], by unfold remA; rw [if_pos ⟨hs, by simp [ns]⟩]; simp [tmOf]⟩
    clear hs
    go_wp2_with fail
    refine (slot_yes HS.out _).mono ?_
    rintro e w1 ⟨rfl, rfl⟩
    go_wp2_with fail
    refine (K1.out.move n t HT.out R1.out.1 R1.out.2.2.2).mono ?_
    rintro q w2 ⟨rfl, hk⟩
    have K2 := Lib.hid hk
    clear hk K1
    go_wp2_with fail
    refine (K2.out.removes n 0 R1.out.2.2.1 R1.out.1 R1.out.2.1).mono ?_
    rintro q w3 ⟨rfl, hk⟩
    have K3 := Lib.hid hk
    clear hk K2
    go_wp2_with fail
    refine (K3.out.gets n 0 R1.out.2.2.1 R1.out.1).mono ?_
    rintro q w4 ⟨rfl, hk⟩
    have K4 := Lib.hid hk
    clear hk K3
    go_wp2_with fail
    refine (K4.out.put n t HT.out A1.out.1 A1.out.2).mono ?_
    rintro q w5 ⟨rfl, hk⟩
    have K5 := Lib.hid hk
    clear hk K4
    go_wp2_with fail
    refine (K5.out.put n t HT.out A2.out.1 A2.out.2).mono ?_
    rintro q w6 ⟨rfl, hk⟩
    have K6 := Lib.hid hk
    clear hk K5
    go_wp2_with fail
    refine (K6.out.gets n t R2.out.2.2 R2.out.1).mono ?_
    rintro q w7 ⟨rfl, hk⟩
    have K7 := Lib.hid hk
    clear hk K6
    go_wp2_with fail
    refine (K7.out.removes n t R2.out.2.2 R2.out.1 R2.out.2.1).mono ?_
    rintro q w8 ⟨rfl, hk⟩
    have K8 := Lib.hid hk
    clear hk K7
    go_wp2_with fail
    refine (known_at K8.out).mono ?_
    rintro q w9 ⟨rfl, hk⟩
    have HB := Lib.hid hk.b
    clear hk K8
    go_wp2_with fail
    go_ret
    exact ⟨rfl, HB.out⟩
  · have HS := Lib.hid hs
    have A1 : Hid (putN [] n = 2 ∧ putT [] n t = []) := ⟨if_pos hs, if_neg (fun h => hs h.1)⟩
    have R1 : Hid (remN [] n = 2 ∧ remT [] n = [] ∧ remA [] n = 0 ∧ movT [] n t = []) := ⟨if_pos hs, if_neg (fun h => hs h.1), if_neg (fun h => hs h.1), if_neg (fun h => hs h.1)⟩
    clear hs
    go_wp2_with fail
    refine (slot_no HS.out _).mono ?_
    rintro e w1 ⟨rfl, rfl⟩
    go_wp2_with fail
    refine (K1.out.put n t HT.out A1.out.1 A1.out.2).mono ?_
    rintro q w2 ⟨rfl, hk⟩
    have K2 := Lib.hid hk
    clear hk K1
    go_wp2_with fail
    refine (K2.out.move n t HT.out R1.out.1 R1.out.2.2.2).mono ?_
    rintro q w3 ⟨rfl, hk⟩
    have K3 := Lib.hid hk
    clear hk K2
    go_wp2_with fail
    refine (K3.out.removes n 0 R1.out.2.2.1 R1.out.1 R1.out.2.1).mono ?_
    rintro q w4 ⟨rfl, hk⟩
    have K4 := Lib.hid hk
    clear hk K3
    go_wp2_with fail
    refine (K4.out.gets n 0 R1.out.2.2.1 R1.out.1).mono ?_
    rintro q w5 ⟨rfl, hk⟩
    have K5 := Lib.hid hk
    clear hk K4
    go_wp2_with fail
    refine (K5.out.len (e := 0) rfl).mono ?_
    rintro q w6 ⟨rfl, hk⟩
    have K6 := Lib.hid hk
    clear hk K5
    go_wp2_with fail
    refine (known_at K6.out).mono ?_
    rintro q w9 ⟨rfl, hk⟩
    have HB := Lib.hid hk.b
    clear hk K6
    go_wp2_with fail
    go_ret
    exact ⟨rfl, HB.out⟩
end Go.Proofs.Ytpalbccoiejmoaa.Yi
