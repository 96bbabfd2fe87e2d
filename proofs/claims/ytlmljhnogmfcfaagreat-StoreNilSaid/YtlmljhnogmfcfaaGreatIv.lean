/- Proves what the store's Copy returns: another store that holds the same and shares no memory. Conditions: as each theorem names them. -/
import Derived.Test.YtlmljhnogmfcfaaGreatRg
import Derived.Test.YtlmljhnogmfcfaaGreatIu
namespace Go.Proofs.YtlmljhnogmfcfaaGreat.Ep
open Go.RowKit Ap Mi Nw Rg Ea Eb Ec Ed Ee El Ia Ib Ic Ik Ie If Ig

structure Cp (v : World) (b : Nat) (q : Ptr) (E : List Em) (k : Nat) (wr : World) : Prop where
 has : ∃ A n Y, Y.map Em.e = (E.take k).map Em.e ∧ Blk wr b (stC { q with A := A, c := n } k) 69 ∧ Mine v.heap.size 6 wr A k n (emL Y) ∧ (∀ y ∈ Y, OwE v.heap.size wr y) ∧ (∀ a, A = some a → ¬ RowsL Y a.block)
 on : Only (fun j => j = b) v wr
theorem en_map {E Y : List Em} (h : Y.map Em.e = E.map Em.e) : en Y = en E := by
 funext n
 have h1 := congrArg (fun l => l[n]?) h
 simp only [List.getElem?_map] at h1
 unfold en
 rw [List.getD_eq_getElem?_getD, List.getD_eq_getElem?_getD]
 cases hY : Y[n]? <;> cases hE : E[n]? <;> rw [hY, hE] at h1 <;> simp_all
def cpy (A : Option Addr) (n0 n1 n2 n3 n4 n5 n6 j : Nat) : Nat := if A.map (·.block) = some j then 7 else col (col (col (col (col (col (col (fun _ => 0) 2 n0) 3 n1) 4 n2) 5 n3) 6 n4) 1 n5) 8 n6 j
theorem copy_end {w v0 v1 v2 v3 v4 v5 v6 wr : World} {g : Nat} {s : Sx} {p : Nat → Nat} {ns : List Nat} {q : Ptr} {c : Ct} {ga gt gr gh gc : Nat}
  (HB : Hid (Bt (fun _ => True) 0 0 p w g s ns q c)) (HBd : Hid (Below w.heap.size w v0)) (HB1 : Hid (Below v0.heap.size v0 v1)) (HB2 : Hid (Below v1.heap.size v1 v2)) (HB3 : Hid (Below v2.heap.size v2 v3)) (HB4 : Hid (Below v3.heap.size v3 v4)) (HB5 : Hid (Below v4.heap.size v4 v5)) (HZ6 : Hid (v6.heap.size = v5.heap.size + 1)) (HB6 : Hid (Below v5.heap.size v5 v6))
  (HP1 : Hid (Na.Are (fun j => v0.heap.size ≤ j) v1 ga c.m 1 c.a)) (HP2 : Hid (Pb.Pt (fun j => v1.heap.size ≤ j) v2 gt c.sd c.t)) (HP3 : Hid (Ue.Rc (fun j => v2.heap.size ≤ j) v3 gr c.r)) (HP4 : Hid (Ye.Hp (fun j => v3.heap.size ≤ j) v4 gh c.h)) (HP5 : Hid (Je.Ah (fun j => v4.heap.size ≤ j) v5 gc c.k))
  (CP : Hid (Cp v6 v5.heap.size ⟨ga, gt, gr, gh, gc, none, 0⟩ c.E c.E.length wr)) : mkPost w s (.returned (.pointer (some ⟨v5.heap.size, 0, none⟩))) wr := by
 obtain ⟨⟨A, n, Y, hY, hbk, hmi, how, hap⟩, hon⟩ := CP.out
 rw [List.take_length] at hY
 have hYl : Y.length = c.E.length := by have := congrArg List.length hY; simpa using this
 have hen := en_map hY
 have z0 := HBd.out.size; have z1 := HB1.out.size; have z2 := HB2.out.size; have z3 := HB3.out.size; have z4 := HB4.out.size; have z5 := HB5.out.size; have z6 := HZ6.out; have z7 := hon.size
 obtain ⟨p7, hp7⟩ : ∃ p7, p7 = cpy A v0.heap.size v1.heap.size v2.heap.size v3.heap.size v4.heap.size v5.heap.size v6.heap.size := ⟨_, rfl⟩
 have hA : ∀ a, A = some a → v6.heap.size ≤ a.block := fun a ha => (hmi.base ha).1
 have hlo : ∀ j, j < v6.heap.size → p7 j = col (col (col (col (col (col (fun _ => 0) 2 v0.heap.size) 3 v1.heap.size) 4 v2.heap.size) 5 v3.heap.size) 6 v4.heap.size) 1 v5.heap.size j := fun j hj => by
  rw [hp7]; unfold cpy
  rw [if_neg (fun e => by
   rw [Option.map_eq_some_iff] at e
   obtain ⟨a, ha, rfl⟩ := e
   have := hA a ha; omega), col_lt hj]
 have e1 : p7 v5.heap.size = 1 := by rw [hlo _ (by omega), col_ge (Nat.le_refl _)]
 have e6 : ∀ j, v4.heap.size ≤ j → j < v5.heap.size → p7 j = 6 := fun j h1 h2 => by rw [hlo _ (by omega), col_lt h2, col_ge h1]
 have e5 : ∀ j, v3.heap.size ≤ j → j < v4.heap.size → p7 j = 5 := fun j h1 h2 => by rw [hlo _ (by omega), col_lt (by omega), col_lt h2, col_ge h1]
 have e4 : ∀ j, v2.heap.size ≤ j → j < v3.heap.size → p7 j = 4 := fun j h1 h2 => by rw [hlo _ (by omega), col_lt (by omega), col_lt (by omega), col_lt h2, col_ge h1]
 have e3 : ∀ j, v1.heap.size ≤ j → j < v2.heap.size → p7 j = 3 := fun j h1 h2 => by rw [hlo _ (by omega), col_lt (by omega), col_lt (by omega), col_lt (by omega), col_lt h2, col_ge h1]
 have e2 : ∀ j, v0.heap.size ≤ j → j < v1.heap.size → p7 j = 2 := fun j h1 h2 => by rw [hlo _ (by omega), col_lt (by omega), col_lt (by omega), col_lt (by omega), col_lt (by omega), col_lt h2, col_ge h1]
 have e0 : ∀ j, j < v0.heap.size → p7 j = 0 := fun j h1 => by rw [hlo _ (by omega), col_lt (by omega), col_lt (by omega), col_lt (by omega), col_lt (by omega), col_lt (by omega), col_lt h1]
 have e7 : ∀ a, A = some a → p7 a.block = 7 := fun a ha => by rw [hp7]; unfold cpy; rw [if_pos (by rw [ha]; rfl)]
 have e8 : ∀ j, v6.heap.size ≤ j → (∀ a, A = some a → a.block ≠ j) → p7 j = 8 := fun j h1 h2 => by
  rw [hp7]; unfold cpy
  rw [if_neg (fun e => by
   rw [Option.map_eq_some_iff] at e
   obtain ⟨a, ha, e⟩ := e
   exact h2 a ha e), col_ge h1]
 clear hlo hp7
 have c5 : Below v4.heap.size v4 v5 := HB5.out
 have c4 : Below v3.heap.size v3 v5 := HB4.out.trans (c5.mono (by omega))
 have c3 : Below v2.heap.size v2 v5 := HB3.out.trans (c4.mono (by omega))
 have c2 : Below v1.heap.size v1 v5 := HB2.out.trans (c3.mono (by omega))
 have n0 : ∀ {v : World}, Below v.heap.size v v5 → Only (fun j => j = v5.heap.size) v wr := fun hb =>
  (Only.of_below hb (Nat.le_refl _) _).trans (((Only.of_below HB6.out (Nat.le_refl _) _).trans (hon.mono fun _ _ e => Or.inl e)).mono fun _ _ e => Or.inl e)
 have hb : Below w.heap.size w wr := by
  have h1 : Below w.heap.size w v5 := HBd.out.trans ((HB1.out.trans (c2.mono z1)).mono z0)
  exact h1.trans ((n0 (Below.refl _ v5)).below (fun j e => by omega) h1.size)
 have hL : Lo p7 wr v5.heap.size ⟨ga, gt, gr, gh, gc, A, n⟩ ⟨Y, c.m, c.a, c.sd, c.t, c.r, c.h, c.k⟩ := by
  refine ⟨by rw [show (⟨Y, c.m, c.a, c.sd, c.t, c.r, c.h, c.k⟩ : Ct).E.length = c.E.length from hYl]; exact hbk, e1, ?_, ?_, ?_, ?_, ?_, by rw [show (⟨Y, c.m, c.a, c.sd, c.t, c.r, c.h, c.k⟩ : Ct).E.length = c.E.length from hYl]; exact hmi.mono (Nat.zero_le _), e7, fun x hx => ?_⟩
  ·exact (HP1.out.tight.only (n0 c2) (fun j hj e => by omega)).mono fun j _ hj => e2 j hj.1 hj.2
  ·exact (HP2.out.tight.only (n0 c3) (fun j hj e => by omega)).mono fun j _ hj => e3 j hj.1 hj.2
  ·exact (HP3.out.tight.only (n0 c4) (fun j hj e => by omega)).mono fun j _ hj => e4 j hj.1 hj.2
  ·exact (HP4.out.tight.only (n0 c5) (fun j hj e => by omega)).mono fun j _ hj => e5 j hj.1 hj.2
  ·exact (HP5.out.tight.only (n0 (Below.refl _ v5)) (fun j hj e => by omega)).mono fun j _ hj => e6 j hj.1 hj.2
  ·have h1 := (how x hx).re
   have h2 : ∀ j, El.Rows x j → p7 j = 8 ∧ j < wr.heap.size := fun j hj => by
    obtain ⟨h3, cur, e, h4⟩ := Iu.rows_cells (how x hx) hj
    exact ⟨e8 j h3 (fun a ha e => hap a ha ⟨x, hx, by rw [e]; exact hj⟩), (Array.getElem?_eq_some_iff.1 h4).1⟩
   exact ⟨h1.f, h1.v, h1.t, fun a ha => h2 _ (Or.inl ⟨a, ha, rfl⟩), fun a ha => h2 _ (Or.inr ⟨a, ha, rfl⟩)⟩
 have r := HB.out.rel
 have hR : Rel (fun _ => True) 0 0 s ns Y c.a c.t c.h c.k := by
  refine ⟨r.ok, ?_, r.nd, ?_, ?_, ?_, ?_, ?_, r.tc, ?_, r.k, r.kx⟩
  ·rw [hen]; exact r.l
  ·rw [hYl]; exact r.lt
  ·rw [hYl]; exact r.le
  ·rw [hYl]; exact r.al
  ·rw [hYl]; exact r.am
  ·rw [hen]; exact r.tm
  ·rw [hen]; exact r.hm
 refine ⟨v5.heap.size, fun j => w.heap.size ≤ j, rfl, ⟨p7, ns, _, _, ⟨hL, hR, HB.out.r, HB.out.m⟩, fun j _ hp => ?_⟩, fun _ hj => hj, hb⟩
 rcases Nat.lt_or_ge j w.heap.size with h | h
 ·exact absurd (e0 j (by omega)) hp
 ·exact h
set_option maxRecDepth 100000 in
set_option maxHeartbeats 2000000 in
theorem copy_any {F : Nat → Prop} {w : World} {g : Nat} {s : Sx} (h : St F w g s) : Calls Tryz.prog 35 #[.pointer (some ⟨g, 0, none⟩)] w (mkPost w s) := by
 obtain ⟨p, ns, q, c, hB, hF⟩ := h.has
 have HB := Lib.hid hB
 have HLd := Lib.hid hB.lo.drew
 have HU := Lib.hid (Ik.usable_any hB.lo)
 have hbig := hB.rel.big
 obtain ⟨a0, _, a2, a3, a4, a5⟩ := Ik.Lo.six HLd.out
 have hSd : w.drew.cell? ⟨g, 0, none⟩ = some (.pointer (some ⟨q.ga, 0, none⟩)) ∧ w.drew.cell? ⟨g, 2, none⟩ = some (.pointer (some ⟨q.gt, 0, none⟩)) ∧ w.drew.cell? ⟨g, 3, none⟩ = some (.pointer (some ⟨q.gr, 0, none⟩)) ∧ w.drew.cell? ⟨g, 4, none⟩ = some (.pointer (some ⟨q.gh, 0, none⟩)) ∧ w.drew.cell? ⟨g, 5, none⟩ = some (.pointer (some ⟨q.gc, 0, none⟩)) := ⟨a0, a2, a3, a4, a5⟩
 have HBd : Hid (Below w.heap.size w w.drew) := (Below.refl _ w).drew
 clear hB hF h a0 a2 a3 a4 a5
 unfold mkPost
 go_enter Tryz.func35, Tryz.ntmps35
 go_wp2_with fail
 refine HU.out.mono ?_
 rintro _ w1 ⟨rfl, hw1⟩
 rw [hw1]
 clear hw1
 go_wp2_with fail
 refine wp_region_noPanic ?_
 refine wp_region_G 26 (fun v => v.cell? ⟨g, 0, none⟩ = some (.pointer (some ⟨q.ga, 0, none⟩)) ∧ v.cell? ⟨g, 2, none⟩ = some (.pointer (some ⟨q.gt, 0, none⟩)) ∧ v.cell? ⟨g, 3, none⟩ = some (.pointer (some ⟨q.gr, 0, none⟩)) ∧ v.cell? ⟨g, 4, none⟩ = some (.pointer (some ⟨q.gh, 0, none⟩)) ∧ v.cell? ⟨g, 5, none⟩ = some (.pointer (some ⟨q.gc, 0, none⟩))) (by kernel_rfl) ?_
 obtain ⟨v0, hv0⟩ : ∃ v0, v0 = w.drew := ⟨_, rfl⟩
 rw [← hv0] at HLd hSd HBd ⊢
 clear hv0
 have HL0 := HLd
 have hS0 := hSd
 clear HLd hSd
 refine Rg.tg 0 (some 9) (v := ?_) rfl (by kernel_rfl) (fun _ _ _ h => h) (by rfl) (hS0) ?_ ?_
 rotate_left
 ·intro w hSw; go_simp; first | done | with_reducible rfl
 try simp only [Ap.sc]
 refine Rg.tg 1 (some 10) (v := ?_) rfl (by kernel_rfl) (fun _ _ _ h => h) (by rfl) (hS0) ?_ ?_
 rotate_left
 ·intro w hSw; go_simp; first | done | with_reducible rfl
 try simp only [Ap.sc]
 refine Rg.tg 2 (some 11) (v := ?_) rfl (by kernel_rfl) (fun _ _ _ h => h) (by rfl) (hS0) ?_ ?_
 rotate_left
 ·intro w hSw; go_simp; first | done | with_reducible rfl
 try simp only [Ap.sc]
 refine Rg.tg 3 (some 12) (v := ?_) rfl (by kernel_rfl) (fun _ _ _ h => h) (by rfl) (hS0) ?_ ?_
 rotate_left
 ·intro w hSw; go_simp; first | done | with_reducible rfl
 try simp only [Ap.sc]
 refine Rg.tg 5 (some 14) (v := ?_) rfl (by kernel_rfl) (fun _ _ _ h => h) (by rfl) (hS0) ?_ ?_
 rotate_left
 ·intro w hSw; go_simp; first | done | with_reducible rfl
 try simp only [Ap.sc]
 refine Rg.tg 6 (some 15) (v := ?_) rfl (by kernel_rfl) (fun _ _ _ h => h) (by rfl) (hS0) ?_ ?_
 rotate_left
 ·intro w hSw; go_simp; first | done | with_reducible rfl
 try simp only [Ap.sc]
 refine Rg.tg 7 (some 16) (v := ?_) rfl (by kernel_rfl) (fun _ _ _ h => h) (by rfl) (hS0) ?_ ?_
 rotate_left
 ·intro w hSw; go_simp; first | done | with_reducible rfl
 try simp only [Ap.sc]
 refine Rg.tg 8 (some 17) (v := ?_) rfl (by kernel_rfl) (fun _ _ _ h => h) (by rfl) (hS0) ?_ ?_
 rotate_left
 ·intro w hSw; go_simp; first | done | with_reducible rfl
 try simp only [Ap.sc]
 refine Rg.tg 10 (some 19) (v := ?_) rfl (by kernel_rfl) (fun _ _ _ h => h) (by rfl) (hS0) ?_ ?_
 rotate_left
 ·intro w hSw; go_simp; first | done | with_reducible rfl
 try simp only [Ap.sc]
 refine Rg.tg 11 (some 20) (v := ?_) rfl (by kernel_rfl) (fun _ _ _ h => h) (by rfl) (hS0) ?_ ?_
 rotate_left
 ·intro w hSw; go_simp; first | done | with_reducible rfl
 try simp only [Ap.sc]
 refine Rg.tg 12 (some 21) (v := ?_) rfl (by kernel_rfl) (fun _ _ _ h => h) (by rfl) (hS0) ?_ ?_
 rotate_left
 ·intro w hSw; go_simp; first | done | with_reducible rfl
 try simp only [Ap.sc]
 refine Rg.tg 13 (some 22) (v := ?_) rfl (by kernel_rfl) (fun _ _ _ h => h) (by rfl) (hS0) ?_ ?_
 rotate_left
 ·intro w hSw; go_simp; first | done | with_reducible rfl
 try simp only [Ap.sc]
 refine Rg.tg 15 (some 24) (v := ?_) rfl (by kernel_rfl) (fun _ _ _ h => h) (by rfl) (hS0) ?_ ?_
 rotate_left
 ·intro w hSw; go_simp; first | done | with_reducible rfl
 try simp only [Ap.sc]
 refine Rg.tg 16 (some 25) (v := ?_) rfl (by kernel_rfl) (fun _ _ _ h => h) (by rfl) (hS0) ?_ ?_
 rotate_left
 ·intro w hSw; go_simp; first | done | with_reducible rfl
 try simp only [Ap.sc]
 refine Rg.tg 17 (some 26) (v := ?_) rfl (by kernel_rfl) (fun _ _ _ h => h) (by rfl) (hS0) ?_ ?_
 rotate_left
 ·intro w hSw; go_simp; first | done | with_reducible rfl
 try simp only [Ap.sc]
 refine Rg.tg 18 (some 27) (v := ?_) rfl (by kernel_rfl) (fun _ _ _ h => h) (by rfl) (hS0) ?_ ?_
 rotate_left
 ·intro w hSw; go_simp; first | done | with_reducible rfl
 try simp only [Ap.sc]
 refine Rg.tg 20 (some 29) (v := ?_) rfl (by kernel_rfl) (fun _ _ _ h => h) (by rfl) (hS0) ?_ ?_
 rotate_left
 ·intro w hSw; go_simp; first | done | with_reducible rfl
 try simp only [Ap.sc]
 refine Rg.tg 21 (some 30) (v := ?_) rfl (by kernel_rfl) (fun _ _ _ h => h) (by rfl) (hS0) ?_ ?_
 rotate_left
 ·intro w hSw; go_simp; first | done | with_reducible rfl
 try simp only [Ap.sc]
 refine Rg.tg 22 (some 31) (v := ?_) rfl (by kernel_rfl) (fun _ _ _ h => h) (by rfl) (hS0) ?_ ?_
 rotate_left
 ·intro w hSw; go_simp; first | done | with_reducible rfl
 try simp only [Ap.sc]
 refine Rg.tg 23 (some 32) (v := ?_) rfl (by kernel_rfl) (fun _ _ _ h => h) (by rfl) (hS0) ?_ ?_
 rotate_left
 ·intro w hSw; go_simp; first | done | with_reducible rfl
 try simp only [Ap.sc]
 refine wpAnyG_ready (rs := [4]) (by kernel_rfl) (by simp) ?_
 refine AllReadyG.cons (o := ⟨some 13, _, _, _, _, _⟩) rfl (fun K hK => ?_) AllReadyG.nil
 go_simp
 refine (Nf.copy_any HL0.out.ar).mono ?_
 rintro _ v1 ⟨ga, rfl, har, hb⟩
 have HP1 := Lib.hid har; have HB1 := Lib.hid hb
 have HL1 := Lib.hid (HL0.out.below hb 0)
 obtain ⟨a0, _, a2, a3, a4, a5⟩ := Ik.Lo.six HL1.out
 have hS1 : v1.cell? ⟨g, 0, none⟩ = some (.pointer (some ⟨q.ga, 0, none⟩)) ∧ v1.cell? ⟨g, 2, none⟩ = some (.pointer (some ⟨q.gt, 0, none⟩)) ∧ v1.cell? ⟨g, 3, none⟩ = some (.pointer (some ⟨q.gr, 0, none⟩)) ∧ v1.cell? ⟨g, 4, none⟩ = some (.pointer (some ⟨q.gh, 0, none⟩)) ∧ v1.cell? ⟨g, 5, none⟩ = some (.pointer (some ⟨q.gc, 0, none⟩)) := ⟨a0, a2, a3, a4, a5⟩
 clear har hb a0 a2 a3 a4 a5
 refine hK.out _ _ (fun _ => hS1) ?_
 clear hK K
 try simp only [Ap.sc]
 refine wpAnyG_ready (rs := [9]) (by kernel_rfl) (by simp) ?_
 refine AllReadyG.cons (o := ⟨some 18, _, _, _, _, _⟩) rfl (fun K hK => ?_) AllReadyG.nil
 go_simp
 refine (Ph.copy_any HL1.out.tb).mono ?_
 rintro _ v2 ⟨gt, rfl, har, hb⟩
 have HP2 := Lib.hid har; have HB2 := Lib.hid hb
 have HL2 := Lib.hid (HL1.out.below hb 0)
 obtain ⟨a0, _, a2, a3, a4, a5⟩ := Ik.Lo.six HL2.out
 have hS2 : v2.cell? ⟨g, 0, none⟩ = some (.pointer (some ⟨q.ga, 0, none⟩)) ∧ v2.cell? ⟨g, 2, none⟩ = some (.pointer (some ⟨q.gt, 0, none⟩)) ∧ v2.cell? ⟨g, 3, none⟩ = some (.pointer (some ⟨q.gr, 0, none⟩)) ∧ v2.cell? ⟨g, 4, none⟩ = some (.pointer (some ⟨q.gh, 0, none⟩)) ∧ v2.cell? ⟨g, 5, none⟩ = some (.pointer (some ⟨q.gc, 0, none⟩)) := ⟨a0, a2, a3, a4, a5⟩
 clear har hb a0 a2 a3 a4 a5
 refine hK.out _ _ (fun _ => hS2) ?_
 clear hK K
 try simp only [Ap.sc]
 refine wpAnyG_ready (rs := [14]) (by kernel_rfl) (by simp) ?_
 refine AllReadyG.cons (o := ⟨some 23, _, _, _, _, _⟩) rfl (fun K hK => ?_) AllReadyG.nil
 go_simp
 refine (Ue.copy_any HL2.out.rc).mono ?_
 rintro _ v3 ⟨gr, rfl, har, hb⟩
 have HP3 := Lib.hid har; have HB3 := Lib.hid hb
 have HL3 := Lib.hid (HL2.out.below hb 0)
 obtain ⟨a0, _, a2, a3, a4, a5⟩ := Ik.Lo.six HL3.out
 have hS3 : v3.cell? ⟨g, 0, none⟩ = some (.pointer (some ⟨q.ga, 0, none⟩)) ∧ v3.cell? ⟨g, 2, none⟩ = some (.pointer (some ⟨q.gt, 0, none⟩)) ∧ v3.cell? ⟨g, 3, none⟩ = some (.pointer (some ⟨q.gr, 0, none⟩)) ∧ v3.cell? ⟨g, 4, none⟩ = some (.pointer (some ⟨q.gh, 0, none⟩)) ∧ v3.cell? ⟨g, 5, none⟩ = some (.pointer (some ⟨q.gc, 0, none⟩)) := ⟨a0, a2, a3, a4, a5⟩
 clear har hb a0 a2 a3 a4 a5
 refine hK.out _ _ (fun _ => hS3) ?_
 clear hK K
 try simp only [Ap.sc]
 refine wpAnyG_ready (rs := [19]) (by kernel_rfl) (by simp) ?_
 refine AllReadyG.cons (o := ⟨some 28, _, _, _, _, _⟩) rfl (fun K hK => ?_) AllReadyG.nil
 go_simp
 refine (Ye.copy_any HL3.out.hp).mono ?_
 rintro _ v4 ⟨gh, rfl, har, hb⟩
 have HP4 := Lib.hid har; have HB4 := Lib.hid hb
 have HL4 := Lib.hid (HL3.out.below hb 0)
 obtain ⟨a0, _, a2, a3, a4, a5⟩ := Ik.Lo.six HL4.out
 have hS4 : v4.cell? ⟨g, 0, none⟩ = some (.pointer (some ⟨q.ga, 0, none⟩)) ∧ v4.cell? ⟨g, 2, none⟩ = some (.pointer (some ⟨q.gt, 0, none⟩)) ∧ v4.cell? ⟨g, 3, none⟩ = some (.pointer (some ⟨q.gr, 0, none⟩)) ∧ v4.cell? ⟨g, 4, none⟩ = some (.pointer (some ⟨q.gh, 0, none⟩)) ∧ v4.cell? ⟨g, 5, none⟩ = some (.pointer (some ⟨q.gc, 0, none⟩)) := ⟨a0, a2, a3, a4, a5⟩
 clear har hb a0 a2 a3 a4 a5
 refine hK.out _ _ (fun _ => hS4) ?_
 clear hK K
 try simp only [Ap.sc]
 refine wpAnyG_ready (rs := [24]) (by kernel_rfl) (by simp) ?_
 refine AllReadyG.cons (o := ⟨some 33, _, _, _, _, _⟩) rfl (fun K hK => ?_) AllReadyG.nil
 go_simp
 refine (Je.copy_any HL4.out.ac).mono ?_
 rintro _ v5 ⟨gc, rfl, har, hb⟩
 have HP5 := Lib.hid har; have HB5 := Lib.hid hb
 have HL5 := Lib.hid (HL4.out.below hb 0)
 obtain ⟨a0, _, a2, a3, a4, a5⟩ := Ik.Lo.six HL5.out
 have hS5 : v5.cell? ⟨g, 0, none⟩ = some (.pointer (some ⟨q.ga, 0, none⟩)) ∧ v5.cell? ⟨g, 2, none⟩ = some (.pointer (some ⟨q.gt, 0, none⟩)) ∧ v5.cell? ⟨g, 3, none⟩ = some (.pointer (some ⟨q.gr, 0, none⟩)) ∧ v5.cell? ⟨g, 4, none⟩ = some (.pointer (some ⟨q.gh, 0, none⟩)) ∧ v5.cell? ⟨g, 5, none⟩ = some (.pointer (some ⟨q.gc, 0, none⟩)) := ⟨a0, a2, a3, a4, a5⟩
 clear har hb a0 a2 a3 a4 a5
 refine hK.out _ _ (fun _ => hS5) ?_
 clear hK K
 try simp only [Ap.sc]
 refine Rg.tg 25 (some 34) (v := ?_) rfl (by kernel_rfl) (fun _ _ _ h => h) (by rfl) (hS5) ?_ ?_
 rotate_left
 ·intro w hSw; go_simp; first | done | with_reducible rfl
 try simp only [Ap.sc]
 refine wpAnyG_ready (rs := [26]) (by kernel_rfl) (by simp) ?_
 refine AllReadyG.cons (o := ⟨some 35, _, _, _, _, _⟩) rfl (fun K hK => ?_) AllReadyG.nil
 go_simp
 refine hK.out _ _ (fun h => absurd h (by omega)) ?_
 clear hK K
 try simp only [Ap.sc]
 refine wpAnyG_ready (rs := [27]) (by kernel_rfl) (by simp) ?_
 refine AllReadyG.cons (o := ⟨some 3, _, _, _, _, _⟩) rfl (fun K hK => ?_) AllReadyG.nil
 go_simp
 refine hK.out _ _ (fun h => absurd h (by omega)) ?_
 clear hK K
 refine wpAnyG_done (by kernel_rfl) ?_ _
 refine NoPanic.normal ?_
 obtain ⟨v6, hv6⟩ : ∃ v6, v6 = v5.alloc (.cells (stC ⟨ga, gt, gr, gh, gc, none, 0⟩ 0) 69) := ⟨_, rfl⟩
 have HB6 : Hid (Below v5.heap.size v5 v6) := by show Below _ _ _; rw [hv6]; exact bnew _ _
 have HK6 : Hid (Blk v6 v5.heap.size (stC ⟨ga, gt, gr, gh, gc, none, 0⟩ 0) 69) := by show Blk _ _ _ _; rw [hv6]; exact Blk.new _ _ _
 have HL6 := Lib.hid (HL5.out.below HB6.out 0)
 have HZ6 : Hid (v6.heap.size = v5.heap.size + 1) := by show _ = _; rw [hv6]; simp
 rw [show v5.alloc (.cells #[.pointer (some ⟨ga, 0, none⟩), .slice none 0 0, .pointer (some ⟨gt, 0, none⟩), .pointer (some ⟨gr, 0, none⟩), .pointer (some ⟨gh, 0, none⟩), .pointer (some ⟨gc, 0, none⟩)] 69) = v6 from hv6.symm]
 clear hv6 hS0 hS1 hS2 hS3 hS4 hS5
 obtain ⟨_, b1, _, _, _, _⟩ := Ik.Lo.six HL6.out
 have lg6 := HL6.out.lt
 have lc6 := HK6.out.lt
 obtain ⟨p6, hp6⟩ : ∃ p6, p6 = col (col (col (col (col (col p 0 v0.heap.size) 0 v1.heap.size) 0 v2.heap.size) 0 v3.heap.size) 0 v4.heap.size) 0 v5.heap.size := ⟨_, rfl⟩
 have HP6 : Hid (p6 v5.heap.size = 0) := by show _ = _; rw [hp6]; exact col_ge (Nat.le_refl _)
 rw [← hp6] at HL6
 clear hp6
 have CP0 : Hid (Cp v6 v5.heap.size ⟨ga, gt, gr, gh, gc, none, 0⟩ c.E 0 v6) := ⟨⟨none, 0, [], rfl, HK6.out, Mine.nil _ _ _, (fun _ h => by cases h), fun _ e => by cases e⟩, Only.refl _ _⟩
 go_wp2_with fail
 go_loopw [41] (fun i wr => ∃ k : Nat, k ≤ c.E.length ∧ i = .int .i64 (k : Int) ∧ Hid (Cp v6 v5.heap.size ⟨ga, gt, gr, gh, gc, none, 0⟩ c.E k wr)) (fun i _ => c.E.length - (intOf i).toNat)
 case atStart => exact ⟨0, Nat.zero_le _, rfl, CP0⟩
 case round =>
  obtain ⟨k, hk, rfl, CP⟩ := hrel
  by_cases hlt : k < c.E.length
  ·have i1 : (k : Int) < (c.E.length : Int) := by omega
   obtain ⟨⟨A, n, Y, hY, hbk, hmi, how, hap⟩, hon⟩ := CP.out
   have HLW := Lib.hid (HL6.out.keep hon (fun j hj hp e => hp (by rw [e]; exact HP6.out)) (fun _ _ => rfl))
   obtain ⟨b, o, hA, hb, hpb, e0, e1, e2, e3, e4, e5, _⟩ := HLW.out.at_ (n := k) hlt
   obtain ⟨x, hx⟩ : ∃ x, x = c.E[k] := ⟨_, rfl⟩
   rw [← hx] at e0 e1 e2 e3 e4 e5
   have HRX : Hid (RE (fun j => p6 j = 8 ∧ j < wr.heap.size) wr x) := by show RE _ wr x; rw [hx]; exact HLW.out.re _ (List.getElem_mem hlt)
   have HTK : Hid ((c.E.take (k + 1)).map Em.e = (c.E.take k).map Em.e ++ [x.e]) := by show _ = _; rw [hx, List.take_succ_eq_append_getElem hlt, List.map_append]; rfl
   have HYM := Lib.hid hY; have HBK := Lib.hid hbk; have HMI := Lib.hid hmi; have HOW := Lib.hid how; have HAP := Lib.hid hap; have HON := Lib.hid hon
   obtain ⟨b5, hb5⟩ : ∃ b5, b5 = wr.heap.size := ⟨_, rfl⟩
   obtain ⟨u, hu⟩ : ∃ u, u = wr.alloc (.cells (emA x) 42) := ⟨_, rfl⟩
   have HBU : Hid (Below wr.heap.size wr u) := by show Below _ _ _; rw [hu]; exact bnew _ _
   have HK5 : Hid (Blk u b5 (emA x) 42) := by show Blk _ _ _ _; rw [hu, hb5]; exact Blk.new wr _ _
   have hk5 := HK5.out
   unfold emA at hu hk5
   obtain ⟨x0, x1, x2, x3, x4, x5, _⟩ := six hk5
   have hcw : u.cell? ⟨v5.heap.size, 1, none⟩ = some (.slice A k n) := (hbk.below HBU.out hbk.lt).cell 1
   have hSU : u.drew.cell? ⟨v5.heap.size, 1, none⟩ = some (.slice A k n) ∧ u.drew.cell? ⟨b5, 0, none⟩ = some (.string x.e.k) ∧ u.drew.cell? ⟨b5, 1, none⟩ = some (.slice x.A x.e.v.length x.a) ∧ u.drew.cell? ⟨b5, 2, none⟩ = some (.slice x.B x.e.t.length x.b) ∧ u.drew.cell? ⟨b5, 3, none⟩ = some (.int .u64 x.e.d) ∧ u.drew.cell? ⟨b5, 4, none⟩ = some (.int .u64 x.e.n) ∧ u.drew.cell? ⟨b5, 5, none⟩ = some (.int .u64 x.e.s) := ⟨hcw, x0, x1, x2, x3, x4, x5⟩
   have HKD : Hid (Blk u.drew b5 (emA x) 42) := HK5.out
   have HWD : Hid (Below wr.heap.size wr u.drew) := HBU.out.drew
   have hzu : Hid (u.drew.heap.size = wr.heap.size + 1) := by show u.heap.size = _; rw [hu]; simp
   rw [hA]
   have HB5 := Lib.hid hb5; have HAA := Lib.hid hA
   clear hY hbk hmi how hap hon hx hk5 hcw hA b1 x0 x1 x2 x3 x4 x5 CP CP0
   go_wp2_with fail
   rw [← hu, ← HB5.out]
   clear hu e0 e1 e2 e3 e4 e5 hb5
   refine wp_region_noPanic ?_
   refine wp_region_G 11 (fun v => v.cell? ⟨v5.heap.size, 1, none⟩ = some (.slice A k n) ∧ v.cell? ⟨b5, 0, none⟩ = some (.string x.e.k) ∧ v.cell? ⟨b5, 1, none⟩ = some (.slice x.A x.e.v.length x.a) ∧ v.cell? ⟨b5, 2, none⟩ = some (.slice x.B x.e.t.length x.b) ∧ v.cell? ⟨b5, 3, none⟩ = some (.int .u64 x.e.d) ∧ v.cell? ⟨b5, 4, none⟩ = some (.int .u64 x.e.n) ∧ v.cell? ⟨b5, 5, none⟩ = some (.int .u64 x.e.s)) (by kernel_rfl) ?_
   obtain ⟨u0, hu0⟩ : ∃ u0, u0 = u.drew := ⟨_, rfl⟩
   rw [← hu0] at hSU HKD HWD hzu ⊢
   clear hu0
   have hS0 := hSU
   clear hSU
   refine Rg.tg 0 (some 45) (v := ?_) rfl (by kernel_rfl) (fun _ _ _ h => h) (by rfl) (hS0) ?_ ?_
   rotate_left
   ·intro w hSw; go_simp; first | done | with_reducible rfl
   try simp only [Ap.sc]
   refine Rg.tg 1 (some 46) (v := ?_) rfl (by kernel_rfl) (fun _ _ _ h => h) (by rfl) (hS0) ?_ ?_
   rotate_left
   ·intro w hSw; go_simp; first | done | with_reducible rfl
   try simp only [Ap.sc]
   refine Rg.tg 2 (some 47) (v := ?_) rfl (by kernel_rfl) (fun _ _ _ h => h) (by rfl) (hS0) ?_ ?_
   rotate_left
   ·intro w hSw; go_simp; first | done | with_reducible rfl
   try simp only [Ap.sc]
   refine Rg.tg 3 (some 48) (v := ?_) rfl (by kernel_rfl) (fun _ _ _ h => h) (by rfl) (hS0) ?_ ?_
   rotate_left
   ·intro w hSw; go_simp; first | done | with_reducible rfl
   try simp only [Ap.sc]
   refine Rg.tg 4 (some 49) (v := ?_) rfl (by kernel_rfl) (fun _ _ _ h => h) (by rfl) (hS0) ?_ ?_
   rotate_left
   ·intro w hSw; go_simp; first | done | with_reducible rfl
   try simp only [Ap.sc]
   refine Rg.tg 5 (some 50) (v := ?_) rfl (by kernel_rfl) (fun _ _ _ h => h) (by rfl) (hS0) ?_ ?_
   rotate_left
   ·intro w hSw; go_simp; first | done | with_reducible rfl
   try simp only [Ap.sc]
   refine wpAnyG_ready (rs := [6]) (by kernel_rfl) (by simp) ?_
   refine AllReadyG.cons (o := ⟨some 51, _, _, _, _, _⟩) rfl (fun K hK => ?_) AllReadyG.nil
   go_simp
   refine (copied_any x u0 (fun v hb => (HRX.out.below HWD.out (Nat.le_refl _)).below hb (Nat.le_refl _))).mono ?_
   rintro _ u1 ⟨y, hye, rfl, hoy, hb⟩
   have HY1 := Lib.hid hoy; have HYE := Lib.hid hye; have HB1 := Lib.hid hb
   have HZ1 := hb.size
   have HK1 := Lib.hid (HKD.out.below hb HKD.out.lt)
   have HW1 : Hid (Below wr.heap.size wr u1) := HWD.out.trans (hb.mono HWD.out.size)
   have HC1 := Lib.hid (HBK.out.below HW1.out HBK.out.lt)
   have hk1 := HK1.out
   unfold emA at hk1
   obtain ⟨x0, x1, x2, x3, x4, x5, _⟩ := six hk1
   have hc1 : u1.cell? ⟨v5.heap.size, 1, none⟩ = some (.slice A k n) := HC1.out.cell 1
   have hSA : u1.cell? ⟨v5.heap.size, 1, none⟩ = some (.slice A k n) ∧ u1.cell? ⟨b5, 0, none⟩ = some (.string x.e.k) ∧ u1.cell? ⟨b5, 1, none⟩ = some (.slice x.A x.e.v.length x.a) ∧ u1.cell? ⟨b5, 2, none⟩ = some (.slice x.B x.e.t.length x.b) ∧ u1.cell? ⟨b5, 3, none⟩ = some (.int .u64 x.e.d) ∧ u1.cell? ⟨b5, 4, none⟩ = some (.int .u64 x.e.n) ∧ u1.cell? ⟨b5, 5, none⟩ = some (.int .u64 x.e.s) := ⟨hc1, x0, x1, x2, x3, x4, x5⟩
   obtain ⟨u2, hu2⟩ : ∃ u2, u2 = u1.alloc (.cells (emA y) 42) := ⟨_, rfl⟩
   have HB2 : Hid (Below u1.heap.size u1 u2) := by show Below _ _ _; rw [hu2]; exact bnew _ _
   have HSR : Hid (Src Tryz.prog 6 30 (.slice (some ⟨u1.heap.size, 0, none⟩) 1 1) 1 (emC y) u2) := by show Src _ _ _ _ _ _ _; rw [hu2]; exact src_one u1 y
   have HZ2 : Hid (u2.heap.size = u1.heap.size + 1) := by show _ = _; rw [hu2]; simp
   have HW2 : Hid (Below wr.heap.size wr u2) := HW1.out.trans (HB2.out.mono HW1.out.size)
   have HK2 := Lib.hid (HK1.out.below HB2.out HK1.out.lt)
   have HC2 := Lib.hid (HC1.out.below HB2.out HC1.out.lt)
   have HM2 := Lib.hid (HMI.out.below HW2.out (Nat.le_refl _))
   have hk2 := HK2.out
   unfold emA at hk2 hu2
   clear x0 x1 x2 x3 x4 x5
   obtain ⟨x0, x1, x2, x3, x4, x5, _⟩ := six hk2
   have hc2 : u2.cell? ⟨v5.heap.size, 1, none⟩ = some (.slice A k n) := HC2.out.cell 1
   have hSB : u2.cell? ⟨v5.heap.size, 1, none⟩ = some (.slice A k n) ∧ u2.cell? ⟨b5, 0, none⟩ = some (.string x.e.k) ∧ u2.cell? ⟨b5, 1, none⟩ = some (.slice x.A x.e.v.length x.a) ∧ u2.cell? ⟨b5, 2, none⟩ = some (.slice x.B x.e.t.length x.b) ∧ u2.cell? ⟨b5, 3, none⟩ = some (.int .u64 x.e.d) ∧ u2.cell? ⟨b5, 4, none⟩ = some (.int .u64 x.e.n) ∧ u2.cell? ⟨b5, 5, none⟩ = some (.int .u64 x.e.s) := ⟨hc2, x0, x1, x2, x3, x4, x5⟩
   have HU2 := Lib.hid hu2
   clear hoy hye hb hk1 hk2 hc1 hc2 x0 x1 x2 x3 x4 x5 hu2
   unfold emV
   refine hK.out _ _ (fun _ => hSA) ?_
   clear hK K
   try simp only [Ap.sc]
   refine wpAnyG_ready (rs := [7]) (by kernel_rfl) (by simp) ?_
   refine AllReadyG.cons (o := ⟨some 52, _, _, _, _, _⟩) rfl (fun K hK => ?_) AllReadyG.nil
   go_simp
   rw [← HU2.out]
   refine hK.out _ _ (fun _ => hSB) ?_
   clear hK K
   try simp only [Ap.sc]
   refine wpAnyG_ready (rs := [8]) (by kernel_rfl) (by simp) ?_
   refine AllReadyG.cons (o := ⟨some 53, _, _, _, _, _⟩) rfl (fun K hK => ?_) AllReadyG.nil
   refine step_mine (by kernel_rfl) _ _ elE _ rfl rfl HM2.out _ rfl 1 _ HSR.out (by omega) (by omega) (by have := HON.out.size; have := HW2.out.size; omega) ?_
   intro A5 n5 w5 m5 g5 q5
   have ho5 : Only (fun j => ∃ a, A = some a ∧ a.block = j) u2 w5 := Only.of_grown g5 (F := fun j => ∃ a, A = some a ∧ a.block = j) (fun k e => by rw [Option.map_eq_some_iff] at e; exact e)
   have hA1 : ∀ a, A = some a → v6.heap.size ≤ a.block ∧ a.block < wr.heap.size := fun a ha => ⟨(HMI.out.base ha).1, (HMI.out.base ha).2.1⟩
   have hk5 := HK2.out.only ho5 (fun hf => by obtain ⟨a, ha, e⟩ := hf; have h1 := (hA1 a ha).2; have h2 := HB5.out; omega)
   have hc5 := HC2.out.only ho5 (fun hf => by obtain ⟨a, ha, e⟩ := hf; have h1 := (hA1 a ha).1; omega)
   have HK5 := Lib.hid hk5; have HC5 := Lib.hid hc5; have HO5 := Lib.hid ho5; have HM5 := Lib.hid m5; have HQ5 := Lib.hid q5; have HA1 := Lib.hid hA1
   unfold emA at hk5
   obtain ⟨x0, x1, x2, x3, x4, x5, _⟩ := six hk5
   have hd5 : w5.cell? ⟨v5.heap.size, 1, none⟩ = some (.slice A k n) := hc5.cell 1
   have f5 : w5.frozen? ⟨v5.heap.size, 1, none⟩ = false := HC5.out.frozen 1
   have hSC : w5.cell? ⟨v5.heap.size, 1, none⟩ = some (.slice A k n) ∧ w5.cell? ⟨b5, 0, none⟩ = some (.string x.e.k) ∧ w5.cell? ⟨b5, 1, none⟩ = some (.slice x.A x.e.v.length x.a) ∧ w5.cell? ⟨b5, 2, none⟩ = some (.slice x.B x.e.t.length x.b) ∧ w5.cell? ⟨b5, 3, none⟩ = some (.int .u64 x.e.d) ∧ w5.cell? ⟨b5, 4, none⟩ = some (.int .u64 x.e.n) ∧ w5.cell? ⟨b5, 5, none⟩ = some (.int .u64 x.e.s) := ⟨hd5, x0, x1, x2, x3, x4, x5⟩
   clear hk5 hc5 ho5 m5 g5 q5 hA1 x0 x1 x2 x3 x4 x5
   refine hK.out _ _ (fun _ => hSC) ?_
   clear hK K
   try simp only [Ap.sc]
   refine Rg.tg 9 (some 54) (v := ?_) rfl (by kernel_rfl) (fun _ _ _ h => h) (by rfl) (hSC) ?_ ?_
   rotate_left
   ·intro w hSw; go_simp; first | done | with_reducible rfl
   try simp only [Ap.sc]
   refine Rg.tg 10 (some 55) (v := ?_) rfl (by kernel_rfl) (fun _ _ _ h => h) (by rfl) (hSC) ?_ ?_
   rotate_left
   ·intro w hSw; go_simp; first | done | with_reducible rfl
   try simp only [Ap.sc]
   refine wpAnyG_ready (rs := [11]) (by kernel_rfl) (by simp) ?_
   refine AllReadyG.cons (o := ⟨none, _, _, _, _, _⟩) rfl (fun K hK => ?_) AllReadyG.nil
   go_simp
   refine hK.out _ _ (fun h => absurd h (by omega)) ?_
   clear hK K
   refine wpAnyG_done (by kernel_rfl) ?_ _
   refine NoPanic.normal ?_
   have hwf : Only (fun j => j = v5.heap.size) w5 (w5.setCell ⟨v5.heap.size, 1, none⟩ (.slice A5 (k + 1) n5)) := only_own (F := fun j => j = v5.heap.size) rfl _
   have hw1 : Only (fun j => j = v5.heap.size ∨ ∃ a, A = some a ∧ a.block = j) u1 (w5.setCell ⟨v5.heap.size, 1, none⟩ (.slice A5 (k + 1) n5)) := (Only.of_below HB2.out (Nat.le_refl _) _).trans (((HO5.out.mono fun _ _ e => Or.inr e).trans (hwf.mono fun _ _ e => Or.inl (Or.inl e))).mono fun _ _ e => Or.inl e)
   have hall : Only (fun j => j = v5.heap.size ∨ ∃ a, A = some a ∧ a.block = j) wr (w5.setCell ⟨v5.heap.size, 1, none⟩ (.slice A5 (k + 1) n5)) := (Only.of_below HW1.out (Nat.le_refl _) _).trans (hw1.mono fun _ _ e => Or.inl e)
   have hz6 := HON.out.size
   have hz0 := hzu.out
   have hzw := HW1.out.size
   have hz2 := HZ2.out
   have hrow : ∀ z ∈ Y ++ [y], OwE v6.heap.size (w5.setCell ⟨v5.heap.size, 1, none⟩ (.slice A5 (k + 1) n5)) z := fun z hz => by
    rcases List.mem_append.1 hz with hz | hz
    ·exact Iu.ow_only (HOW.out z hz) hall (fun j hj hf => by
      rcases hf with rfl | ⟨a, ha, rfl⟩
      ·have h1 := (Iu.rows_cells (HOW.out z hz) hj).1; omega
      ·exact HAP.out a ha ⟨z, hz, hj⟩)
    ·rw [List.mem_singleton.1 hz]
     exact (Iu.ow_only HY1.out hw1 (fun j hj hf => by
      have h1 := (Iu.rows_cells HY1.out hj).1
      rcases hf with rfl | ⟨a, ha, rfl⟩
      ·omega
      ·have h2 := (HA1.out a ha).2; omega)).base (by omega)
   have HN : Hid (Cp v6 v5.heap.size ⟨ga, gt, gr, gh, gc, none, 0⟩ c.E (k + 1) (w5.setCell ⟨v5.heap.size, 1, none⟩ (.slice A5 (k + 1) n5))) := by
    refine ⟨⟨A5, n5, Y ++ [y], by rw [List.map_append, HYM.out, List.map_cons, List.map_nil, HYE.out, HTK.out], HC5.out.set 1 _, ?_, hrow, fun a ha hr => ?_⟩, HON.out.trans (hall.mono fun j _ hf => ?_)⟩
    ·rw [emL_append, emL_one]; exact HM5.out.only hwf (fun a ha e => by
      rcases HQ5.out with h | h
      ·rw [h] at ha; have h1 := (HA1.out a ha).1; omega
      ·have h1 := h a ha; omega)
    ·obtain ⟨z, hz, hj⟩ := hr
     rcases HQ5.out with h | h
     ·rw [h] at ha
      rcases List.mem_append.1 hz with hz | hz
      ·exact HAP.out a ha ⟨z, hz, hj⟩
      ·rw [List.mem_singleton.1 hz] at hj
       have h1 := (Iu.rows_cells HY1.out hj).1; have h2 := (HA1.out a ha).2; omega
     ·have h1 := h a ha
      rcases List.mem_append.1 hz with hz | hz
      ·obtain ⟨_, cur, e, hc⟩ := Iu.rows_cells (HOW.out z hz) hj
       have h2 := (Array.getElem?_eq_some_iff.1 hc).1; omega
      ·rw [List.mem_singleton.1 hz] at hj
       obtain ⟨_, cur, e, hc⟩ := Iu.rows_cells HY1.out hj
       have h2 := (Array.getElem?_eq_some_iff.1 hc).1; omega
    ·rcases hf with rfl | ⟨a, ha, rfl⟩
     ·exact Or.inl rfl
     ·exact Or.inr (HA1.out a ha).1
   clear hrow hwf hw1 hall
   go_wp2_with fail
   go_roundw
   case rel => exact ⟨k + 1, by omega, by go_num, HN⟩
   case measure => simp [intOf]; omega
  ·obtain rfl : k = c.E.length := by omega
   have hnn : ¬ (c.E.length : Int) < c.E.length := by omega
   clear hlt b1
   go_wp2_with fail
   refine bodyPost_ret (results_tmp rfl _ _ _) rfl ?_
   obtain ⟨g9, F9, hg, h9⟩ := copy_end HB HBd HB1 HB2 HB3 HB4 HB5 HZ6 HB6 HP1 HP2 HP3 HP4 HP5 CP
   refine ⟨g9, ?_, F9, h9⟩
   rw [← hg]
   rfl
end Go.Proofs.YtlmljhnogmfcfaaGreat.Ep
