/- Proves the law StoreNil at every argument. Condition: the entry reads as it should. -/
import Derived.Test.YtlmljhnogmfcfaaGreatIza
import Derived.Test.YtlmljhnogmfcfaaGreatEw
import Derived.Deep.CutBlock
namespace Go.Proofs.YtlmljhnogmfcfaaGreat.Iy
open Go.RowKit Ap Mi Nw Rg Ea Eb Ec Ed Ee El Ew Iz Ep

/-- A nil or zero store, the entry's box, boxes of no entry, and what came before stands still. -/
structure Kz (N : Nat) (w w' : World) (p : Option Addr) (C : Nat) (x : Em) (B : List Nat) : Prop where
  i : Dead w' p
  b : Below N w w'
  z : N ≤ w'.heap.size
  c : Blk w' C (emA x) 42
  bx : ∀ j ∈ B, Blk w' j zA 42
section
variable {N C : Nat} {w w1 : World} {p : Option Addr} {x : Em} {B : List Nat}
theorem Kz.below {w2 : World} (h : Kz N w w1 p C x B) (hb : Below w1.heap.size w1 w2) : Kz N w w2 p C x B :=
  ⟨h.i.below hb, h.b.trans (hb.mono h.z), Nat.le_trans h.z hb.size, h.c.below hb h.c.lt, fun j hj => (h.bx j hj).below hb (h.bx j hj).lt⟩
theorem Kz.add {w2 : World} {j : Nat} (h : Kz N w w2 p C x B) (hj : Blk w2 j zA 42) : Kz N w w2 p C x (j :: B) :=
  ⟨h.i, h.b, h.z, h.c, fun k hk => by rcases List.mem_cons.1 hk with rfl | hk; exact hj; exact h.bx k hk⟩
theorem Kz.ent (h : Kz N w w1 p C x B) : C < w1.heap.size ∧ w1.cell? ⟨C, 0, none⟩ = some (.string x.e.k) ∧ w1.cell? ⟨C, 1, none⟩ = some (.slice x.A x.e.v.length x.a) ∧ w1.cell? ⟨C, 2, none⟩ = some (.slice x.B x.e.t.length x.b) ∧ w1.cell? ⟨C, 3, none⟩ = some (.int .u64 x.e.d) ∧ w1.cell? ⟨C, 4, none⟩ = some (.int .u64 x.e.n) ∧ w1.cell? ⟨C, 5, none⟩ = some (.int .u64 x.e.s) := by
  have h1 := h.c
  have h2 := h1.lt
  unfold emA at h1
  obtain ⟨x0, x1, x2, x3, x4, x5, _⟩ := six h1
  exact ⟨h2, x0, x1, x2, x3, x4, x5⟩
theorem Kz.box (h : Kz N w w1 p C x B) {j : Nat} (hj : j ∈ B) : j < w1.heap.size ∧ w1.cell? ⟨j, 0, none⟩ = some (.string ⟨#[]⟩) ∧ w1.cell? ⟨j, 1, none⟩ = some (.slice none 0 0) ∧ w1.cell? ⟨j, 2, none⟩ = some (.slice none 0 0) ∧ w1.cell? ⟨j, 3, none⟩ = some (.int .u64 0) ∧ w1.cell? ⟨j, 4, none⟩ = some (.int .u64 0) ∧ w1.cell? ⟨j, 5, none⟩ = some (.int .u64 0) := by
  have h1 := h.bx j hj
  have h2 := h1.lt
  unfold zA at h1
  obtain ⟨x0, x1, x2, x3, x4, x5, _⟩ := six h1
  exact ⟨h2, x0, x1, x2, x3, x4, x5⟩
theorem Kz.put (h : Kz N w w1 p C x B) : Calls Tryz.prog 22 #[.pointer p, .agg #[.string x.e.k, .slice x.A x.e.v.length x.a, .slice x.B x.e.t.length x.b, .int .u64 x.e.d, .int .u64 x.e.n, .int .u64 x.e.s]] w1 fun q w2 => q = .returned (.tuple #[.slice none 0 0, .int .i64 1]) ∧ Kz N w w2 p C x B := (put_dead h.i x).mono fun _ _ ⟨h1, h2⟩ => ⟨h1, h.below h2⟩
theorem Kz.find (h : Kz N w w1 p C x B) : Calls Tryz.prog 26 #[.pointer p, .string x.e.k] w1 fun q w2 => q = .returned (.tuple #[.agg #[.string ⟨#[]⟩, .slice none 0 0, .slice none 0 0, .int .u64 0, .int .u64 0, .int .u64 0], .int .i64 1]) ∧ Kz N w w2 p C x B := (find_dead h.i x.e.k).mono fun _ _ ⟨h1, h2⟩ => ⟨h1, h.below h2⟩
theorem Kz.use (h : Kz N w w1 p C x B) : Calls Tryz.prog 20 #[.pointer p, .string x.e.k] w1 fun q w2 => q = .returned (.tuple #[.agg #[.string ⟨#[]⟩, .slice none 0 0, .slice none 0 0, .int .u64 0, .int .u64 0, .int .u64 0], .int .i64 1]) ∧ Kz N w w2 p C x B := (use_dead h.i x.e.k).mono fun _ _ ⟨h1, h2⟩ => ⟨h1, h.below h2⟩
theorem Kz.rem (h : Kz N w w1 p C x B) : Calls Tryz.prog 21 #[.pointer p, .string x.e.k] w1 fun q w2 => q = .returned (.tuple #[.agg #[.string ⟨#[]⟩, .slice none 0 0, .slice none 0 0, .int .u64 0, .int .u64 0, .int .u64 0], .int .i64 1]) ∧ Kz N w w2 p C x B := (rem_dead h.i x.e.k).mono fun _ _ ⟨h1, h2⟩ => ⟨h1, h.below h2⟩
theorem Kz.budget (h : Kz N w w1 p C x B) : Calls Tryz.prog 28 #[.pointer p] w1 fun q w2 => q = .returned (.tuple #[.int .i64 0, .int .i64 0]) ∧ Kz N w w2 p C x B := (budget_dead h.i).mono fun _ _ ⟨h1, h2⟩ => ⟨h1, h.below h2⟩
theorem Kz.tou (h : Kz N w w1 p C x B) (t : Int) : Calls Tryz.prog 30 #[.pointer p, .string x.e.k, .int .u64 t] w1 fun q w2 => q = .returned (.int .i64 1) ∧ Kz N w w2 p C x B := (tou_dead h.i x.e.k t).mono fun _ _ ⟨h1, h2⟩ => ⟨h1, h.below h2⟩
theorem Kz.exp (h : Kz N w w1 p C x B) (t : Int) : Calls Tryz.prog 31 #[.pointer p, .int .u64 t] w1 fun q w2 => q = .returned (.slice none 0 0) ∧ Kz N w w2 p C x B := (exp_dead h.i t).mono fun _ _ ⟨h1, h2⟩ => ⟨h1, h.below h2⟩
theorem Kz.next (h : Kz N w w1 p C x B) : Calls Tryz.prog 32 #[.pointer p] w1 fun q w2 => q = .returned (.int .u64 18446744073709551615) ∧ Kz N w w2 p C x B := (next_dead h.i).mono fun _ _ ⟨h1, h2⟩ => ⟨h1, h.below h2⟩
theorem Kz.keys (h : Kz N w w1 p C x B) : Calls Tryz.prog 33 #[.pointer p] w1 fun q w2 => q = .returned (.slice none 0 0) ∧ Kz N w w2 p C x B := (keys_dead h.i).mono fun _ _ ⟨h1, h2⟩ => ⟨h1, h.below h2⟩
theorem Kz.used (h : Kz N w w1 p C x B) : Calls Tryz.prog 25 #[.pointer p, .int .i64 0, .int .i64 0] w1 fun q w2 => q = .returned (.bool true) ∧ Kz N w w2 p C x B := (Eq.used_gen 0 0 (used_dead h.i)).mono fun _ _ ⟨h1, h2⟩ => ⟨h1, h.below h2⟩
theorem Kz.copy (h : Kz N w w1 p C x B) : Calls Tryz.prog 35 #[.pointer p] w1 fun q w2 => q = .returned (.pointer none) ∧ Kz N w w2 p C x B := (copy_dead h.i).mono fun _ _ ⟨h1, h2⟩ => ⟨h1, h.below h2⟩
theorem Kz.coll (h : Kz N w w1 p C x B) : Calls Tryz.prog 34 #[.pointer p] w1 fun q w2 => ∃ A c, q = .returned (.slice A 0 c) ∧ Kz N w w2 p C x B := (collect_dead h.i).mono fun _ _ ⟨A, c, l, h1, h2, _, h4⟩ => by
  obtain rfl : l = [] := List.map_eq_nil_iff.1 h2
  exact ⟨A, c, h1, h.below h4⟩
theorem Kz.gives (h : Kz N w w1 p C x B) : Calls Tryz.prog 29 #[.agg #[.string ⟨#[]⟩, .slice none 0 0, .slice none 0 0, .int .u64 0, .int .u64 0, .int .u64 0], .int .i64 1, .agg #[.string ⟨#[]⟩, .slice none 0 0, .slice none 0 0, .int .u64 0, .int .u64 0, .int .u64 0], .int .i64 1] w1 fun q w2 => q = .returned (.bool true) ∧ Kz N w w2 p C x B := (gives_true (G := fun _ => True) (G' := fun _ => True) (x := zeroM) (y := zeroM) (n := 1) rfl RE.zero RE.zero (El.OwE.wr (OwE.zero 0 _))).mono fun _ _ ⟨h1, h2, _⟩ =>
  ⟨h1, h.below (h2.below (fun j hj => by rcases hj with ⟨a, ha, _⟩ | ⟨a, ha, _⟩ <;> cases ha) (Nat.le_refl _))⟩
end
open Classical in
set_option maxRecDepth 100000 in
set_option maxHeartbeats 4000000 in
theorem nil_walk (x : Em) (t : Int) (W : World) (hx : R0 W x) : Calls Tryz.prog 7 #[emV x, .int .u64 t] W (boolTo true W) := by
  unfold boolTo
  have HX := Lib.hid hx
  obtain ⟨C, hC⟩ : ∃ C, C = W.heap.size := ⟨_, rfl⟩
  obtain ⟨v1, hv1⟩ : ∃ v1, v1 = W.alloc (.cells (emA x) 42) := ⟨_, rfl⟩
  have HB1 : Hid (Below W.heap.size W v1) := by show Below _ _ _; rw [hv1]; exact bnew _ _
  have HK1 : Hid (Blk v1 C (emA x) 42) := by show Blk _ _ _ _; rw [hv1, hC]; exact Blk.new _ _ _
  have HLI := Lib.hid (light_any x v1 (hx.below HB1.out))
  unfold emV vPost at HLI
  have hk1 := HK1.out
  unfold emA at hk1 hv1
  obtain ⟨x0, x1, x2, x3, x4, x5, _⟩ := six hk1
  have lC := hk1.lt
  clear hx hk1
  unfold emV
  have HCE := Lib.hid hC
  by_cases hl : lgt x.e
  case neg =>
    rw [decide_eq_false hl] at HLI
    clear hl
    go_enter Tryz.func7, Tryz.ntmps7
    go_wp2_with fail
    rw [← hv1, ← hC]
    clear hv1 hC
    refine HLI.out.mono ?_
    rintro _ v2 ⟨rfl, hb⟩
    have HB2 := Lib.hid hb
    clear hb x0 x1 x2 x3 x4 x5
    go_wp2_with fail
    refine (known_any _).mono ?_
    rintro _ v3 ⟨rfl, hb⟩
    have HB3 := Lib.hid hb
    clear hb
    go_wp2_with fail
    go_ret
    exact ⟨rfl, (HB1.out.trans (HB2.out.mono HB1.out.size)).trans (HB3.out.mono (Nat.le_trans HB1.out.size HB2.out.size))⟩
  rw [decide_eq_true hl] at HLI
  clear hl
  go_enter Tryz.func7, Tryz.ntmps7
  go_wp2_with fail
  rw [← hv1, ← hC]
  clear hv1 hC
  refine HLI.out.mono ?_
  rintro _ v2 ⟨rfl, hb⟩
  have HB2 := Lib.hid hb
  have HK2 := Lib.hid (HK1.out.below hb HK1.out.lt)
  clear hb x0 x1 x2 x3 x4 x5
  obtain ⟨N, hN⟩ : ∃ N, N = v2.heap.size := ⟨_, rfl⟩
  obtain ⟨w0, hw0⟩ : ∃ w0, w0 = (v2.alloc (.cells #[.pointer none, .slice none 0 0, .pointer none, .pointer none, .pointer none, .pointer none] 69)).alloc (.cells #[.pointer none, .pointer (some ⟨N, 0, none⟩)] 23) := ⟨_, rfl⟩
  have P1 : Hid (Blk w0 N #[.pointer none, .slice none 0 0, .pointer none, .pointer none, .pointer none, .pointer none] 69) := by
    show Blk _ _ _ _
    rw [hw0, hN]; exact (Blk.new v2 _ _).below (bnew _ _) (by simp)
  have P2 : Hid (Blk w0 (N + 1) #[.pointer none, .pointer (some ⟨N, 0, none⟩)] 23) := by
    show Blk _ _ _ _
    have := Blk.new (v2.alloc (.cells #[.pointer none, .slice none 0 0, .pointer none, .pointer none, .pointer none, .pointer none] 69)) #[.pointer none, .pointer (some ⟨N, 0, none⟩)] 23
    rw [hw0, hN]; rw [hN] at this; simpa using this
  have HBw : Hid (Below N v2 w0) := by show Below _ _ _; rw [hw0, hN]; exact (bnew v2 _).alloc (by simp) _
  have HKw := Lib.hid (HK2.out.below HBw.out (by rw [hN]; exact HK2.out.lt))
  have hz0 : N + 1 < w0.heap.size := P2.out.lt
  have hCN : C < N := by rw [hN]; exact HK2.out.lt
  have hNz : Hid (W.heap.size ≤ N) := by show _ ≤ _; rw [hN]; exact Nat.le_trans HB1.out.size HB2.out.size
  have HBW : Hid (Below W.heap.size W w0) := (HB1.out.trans (HB2.out.mono HB1.out.size)).trans (HBw.out.mono hNz.out)
  go_upto_region 4 with (fail)
  rw [← hN]
  rw [← hw0]
  clear hw0 hN
  go_loopw [25] (fun i wr => ∃ K : Nat, K ≤ 2 ∧ i = .int .i64 (K : Int) ∧ Below (N + 2) w0 wr) (fun i _ => 2 - (intOf i).toNat)
  case atStart => exact ⟨0, by omega, rfl, Below.refl _ _⟩
  case round =>
    obtain ⟨K, hK, rfl, hb⟩ := hrel
    have HBr := Lib.hid hb
    have hzr := hb.size
    by_cases hlt : K < 2
    · have i1 : (K : Int) < 2 := by omega
      obtain ⟨p, hv, hid⟩ : ∃ p, wr.cell? ⟨N + 1, K, none⟩ = some (.pointer p) ∧ Dead wr p := by
        have h2 := P2.out.below hb (by omega)
        have h1 := P1.out.below hb (by omega)
        have : K = 0 ∨ K = 1 := by omega
        rcases this with rfl | rfl
        · exact ⟨_, h2.cell 0, Or.inl rfl⟩
        · exact ⟨_, h2.cell 1, Or.inr ⟨N, rfl, h1.cell 5⟩⟩
      have K1 : Hid (Kz (N + 2) w0 wr p C x []) := by
        exact ⟨hid, hb, by omega, HKw.out.below hb (by omega), fun _ h => by cases h⟩
      have lN : N + 1 < wr.heap.size := by omega
      clear hb hid
      obtain ⟨lc, c0, c1, c2, c3, c4, c5⟩ := K1.out.ent
      go_wp2_with fail
      refine (K1.out.put).mono ?_
      rintro _ w2 ⟨rfl, hk⟩
      have K2 := Lib.hid hk
      clear hk
      clear c0 c1 c2 c3 c4 c5 lc
      clear hv
      obtain ⟨lc, c0, c1, c2, c3, c4, c5⟩ := K2.out.ent
      go_wp2_with fail
      refine (K2.out.find).mono ?_
      rintro _ w3 ⟨rfl, hk⟩
      have K3 := Lib.hid hk
      clear hk
      clear c0 c1 c2 c3 c4 c5 lc
      obtain ⟨lc, c0, c1, c2, c3, c4, c5⟩ := K3.out.ent
      obtain ⟨u3, hu3⟩ : ∃ u3, u3 = w3.alloc (.cells #[.string ⟨#[]⟩, .slice none 0 0, .slice none 0 0, .int .u64 0, .int .u64 0, .int .u64 0] 42) := ⟨_, rfl⟩
      have K3b := Lib.hid ((K3.out.below (show Below w3.heap.size w3 u3 by rw [hu3]; exact bnew _ _)).add (j := w3.heap.size) (by rw [hu3]; exact Blk.new _ _ _))
      go_wp2_with fail
      rw [← hu3]
      clear hu3
      refine (K3b.out.use).mono ?_
      rintro _ w4 ⟨rfl, hk⟩
      have K4 := Lib.hid hk
      clear hk
      clear c0 c1 c2 c3 c4 c5 lc
      obtain ⟨lc, c0, c1, c2, c3, c4, c5⟩ := K4.out.ent
      obtain ⟨u4, hu4⟩ : ∃ u4, u4 = w4.alloc (.cells #[.string ⟨#[]⟩, .slice none 0 0, .slice none 0 0, .int .u64 0, .int .u64 0, .int .u64 0] 42) := ⟨_, rfl⟩
      have K4b := Lib.hid ((K4.out.below (show Below w4.heap.size w4 u4 by rw [hu4]; exact bnew _ _)).add (j := w4.heap.size) (by rw [hu4]; exact Blk.new _ _ _))
      go_wp2_with fail
      rw [← hu4]
      clear hu4
      refine (K4b.out.rem).mono ?_
      rintro _ w5 ⟨rfl, hk⟩
      have K5 := Lib.hid hk
      clear hk
      clear c0 c1 c2 c3 c4 c5 lc
      obtain ⟨u5, hu5⟩ : ∃ u5, u5 = w5.alloc (.cells #[.string ⟨#[]⟩, .slice none 0 0, .slice none 0 0, .int .u64 0, .int .u64 0, .int .u64 0] 42) := ⟨_, rfl⟩
      have K5b := Lib.hid ((K5.out.below (show Below w5.heap.size w5 u5 by rw [hu5]; exact bnew _ _)).add (j := w5.heap.size) (by rw [hu5]; exact Blk.new _ _ _))
      go_wp2_with fail
      rw [← hu5]
      clear hu5
      refine (K5b.out.budget).mono ?_
      rintro _ w6 ⟨rfl, hk⟩
      have K6 := Lib.hid hk
      clear hk
      obtain ⟨ld, d0, d1, d2, d3, d4, d5⟩ := K6.out.box (j := w3.heap.size) (by simp)
      go_wp2_with fail
      refine (K6.out.gives).mono ?_
      rintro _ w7 ⟨rfl, hk⟩
      have K7 := Lib.hid hk
      clear hk
      clear d0 d1 d2 d3 d4 d5 ld
      obtain ⟨ld, d0, d1, d2, d3, d4, d5⟩ := K7.out.box (j := w4.heap.size) (by simp)
      go_wp2_with fail
      refine (K7.out.gives).mono ?_
      rintro _ w8 ⟨rfl, hk⟩
      have K8 := Lib.hid hk
      clear hk
      clear d0 d1 d2 d3 d4 d5 ld
      obtain ⟨ld, d0, d1, d2, d3, d4, d5⟩ := K8.out.box (j := w5.heap.size) (by simp)
      go_wp2_with fail
      refine (K8.out.gives).mono ?_
      rintro _ w9 ⟨rfl, hk⟩
      have K9 := Lib.hid hk
      clear hk
      clear d0 d1 d2 d3 d4 d5 ld
      obtain ⟨lc, c0, c1, c2, c3, c4, c5⟩ := K9.out.ent
      go_wp2_with fail
      refine (K9.out.tou t).mono ?_
      rintro _ w10 ⟨rfl, hk⟩
      have K10 := Lib.hid hk
      clear hk
      clear c0 c1 c2 c3 c4 c5 lc
      go_wp2_with fail
      refine (K10.out.exp t).mono ?_
      rintro _ w11 ⟨rfl, hk⟩
      have K11 := Lib.hid hk
      clear hk
      go_wp2_with fail
      refine (K11.out.next).mono ?_
      rintro _ w12 ⟨rfl, hk⟩
      have K12 := Lib.hid hk
      clear hk
      go_wp2_with fail
      refine (K12.out.keys).mono ?_
      rintro _ w13 ⟨rfl, hk⟩
      have K13 := Lib.hid hk
      clear hk
      go_wp2_with fail
      refine (K13.out.coll).mono ?_
      rintro _ w14 ⟨A9, c9, rfl, hk⟩
      have K14 := Lib.hid hk
      clear hk
      go_wp2_with fail
      refine (K14.out.used).mono ?_
      rintro _ w15 ⟨rfl, hk⟩
      have K15 := Lib.hid hk
      clear hk
      go_wp2_with fail
      refine (K15.out.copy).mono ?_
      rintro _ w16 ⟨rfl, hk⟩
      have K16 := Lib.hid hk
      clear hk
      go_wp2_with fail
      go_roundw
      case rel => exact ⟨K + 1, by omega, by go_num, K16.out.b⟩
      case measure => simp [intOf]; omega
    · obtain rfl : K = 2 := by omega
      have hnn : ¬ ((2 : Nat) : Int) < 2 := by omega
      clear hb
      go_wp2_with fail
      refine (known_any _).mono ?_
      rintro q w63 ⟨rfl, hb⟩
      have HBz := Lib.hid hb
      clear hb
      go_wp2_with fail
      go_ret
      exact ⟨rfl, HBW.out.trans ((HBr.out.trans (HBz.out.mono (by omega))).mono (by have := hNz.out; omega))⟩
end Go.Proofs.YtlmljhnogmfcfaaGreat.Iy
