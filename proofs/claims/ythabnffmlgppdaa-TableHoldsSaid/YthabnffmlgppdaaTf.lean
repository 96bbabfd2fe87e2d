/- Proves what the methods Get and Put of the specification's table return. Conditions: as each theorem names them. -/
import Derived.Test.YthabnffmlgppdaaTe
import Derived.BigQuiet
import Derived.Deep.QuietTactic
namespace Go.Proofs.Ythabnffmlgppdaa.Tf
open Go.RowKit Ap Mi Nw Rg Hm Tm Tn Ta Tb Tc Td Te
open To (putT delT putN delN roomT)

/-- Is it a key? -/
def okK (k : Key) : Bool := decide (1 ≤ k.length) && decide (k.length ≤ 250)
theorem okK_spec {k : Key} (h : okK k = true) : 1 ≤ k.length ∧ k.length ≤ 250 := by unfold okK at h; simpa using h
theorem size_of (k : Key) : (⟨k.toArray⟩ : ByteArray).size = k.length := by show k.toArray.size = k.length; simp
set_option maxHeartbeats 400000 in
theorem rok_any (k : Key) (w : World) (hk : k.length ≤ 140737488355328) :
    Calls Try.prog 25 #[.string ⟨k.toArray⟩] w fun e w' => e = .returned (.bool (okK k)) ∧ w = w' := by
  have HV : Hid (okK k = (decide (1 ≤ k.length) && decide (k.length ≤ 250))) := rfl
  by_cases h0 : 1 ≤ k.length
  · have d0 : decide (1 ≤ k.length) = true := by simpa using h0
    go_enter Try.func25, Try.ntmps25
    go_wp2
    go_ret
    exact ⟨Nw.retB (by rw [HV.out, d0, Bool.eq_iff_iff]; simp; omega), rfl⟩
  · have h2 : k.length < 1 := by omega
    go_enter Try.func25, Try.ntmps25
    go_wp2
    go_ret
    exact ⟨Nw.retB (by rw [HV.out, Bool.eq_iff_iff]; simp; omega), rfl⟩
/-- What Get answers. -/
def Gets (c : List (Cell Key)) (k : Key) (n e : Int) : Prop :=
  (okK k = false ∧ n = 0 ∧ e = 2) ∨ (okK k = true ∧ (∃ (i x : Nat), c[i]? = some (some (k, x)) ∧ n = (x : Int)) ∧ e = 0) ∨ (okK k = true ∧ (∀ y, some (k, y) ∉ c) ∧ n = 0 ∧ e = 9)
set_option maxRecDepth 100000 in
set_option maxHeartbeats 1000000 in
theorem rget_any {w : World} {c : List (Cell Key)} {X Y : Option Addr} {p q : Nat} {seed : Int} {H : Nat → Key → Nat} (t : Tb w c X p Y q) (g : To.Good H c) (k : Key) (hk : k.length ≤ 1000000) (hn : c.length ≤ 1000000) {n e : Int} (h : Gets c k n e) :
    Calls Try.prog 29 #[.agg #[.int .u64 seed, .slice X c.length p, .slice Y c.length q], .string ⟨k.toArray⟩] w fun r w' => r = .returned (.tuple #[.int .i64 n, .int .i64 e]) ∧ Below w.heap.size w w' := by
  obtain ⟨w0, hw0⟩ : ∃ w0, w0 = w.alloc (.cells #[.int .u64 seed, .slice X c.length p, .slice Y c.length q] 31) := ⟨_, rfl⟩
  obtain ⟨b2, hb2⟩ : ∃ b2, b2 = w.heap.size := ⟨_, rfl⟩
  have b0 : Below b2 w w0 := by rw [hw0, hb2]; exact bnew _ _
  have P2 : Hid (Blk w0 b2 #[.int .u64 seed, .slice X c.length p, .slice Y c.length q] 31) := by show Blk _ _ _ _; rw [hw0, hb2]; exact Blk.new _ _ _
  have HB := Lib.hid b0; have HE2 := Lib.hid hb2
  have HT0 := Lib.hid (t.below b0 (by omega))
  have HV := Lib.hid (rok_any k w0 (by omega))
  have l2 : b2 < w0.heap.size := P2.out.lt
  have g1 : (c.length : Int) ≤ 1000000 := by omega
  obtain ⟨y0, y1, y2, _⟩ := P2.out.three
  clear t b0
  rcases h with ⟨hv, rfl, rfl⟩ | ⟨hv, ⟨i, x, hi, rfl⟩, rfl⟩ | ⟨hv, hno, rfl, rfl⟩
  · rw [hv] at HV
    clear hv
    go_enter Try.func29, Try.ntmps29
    go_wp2_with fail
    rw [← hw0, ← hb2]
    clear hw0 hb2
    refine HV.out.mono ?_
    rintro r w1 ⟨rfl, rfl⟩
    go_wp2_with fail
    go_ret2
    exact ⟨rfl, by rw [← HE2.out]; exact HB.out⟩
  · have hl := lt_of_some hi
    have FA := Lib.hid (find_any (seed := seed) HT0.out k (okK_spec hv).1 (by omega) (fd_there g hi))
    have hg : (nc c)[i]? = some (.int .i64 (x : Int)) := by unfold nc; rw [List.getElem?_map, hi]; rfl
    have HG := Lib.hid hg
    have i1 : (i : Int) < (c.length : Int) := by omega
    rw [hv] at HV
    clear hv hi hg
    go_enter Try.func29, Try.ntmps29
    go_wp2_with fail
    rw [← hw0, ← hb2]
    clear hw0 hb2
    refine HV.out.mono ?_
    rintro r w1 ⟨rfl, rfl⟩
    go_wp2_with fail
    refine FA.out.mono ?_
    rintro r w1 ⟨rfl, hb⟩
    have P3 := Lib.hid (P2.out.below hb l2)
    have HT1 := Lib.hid (HT0.out.below hb (Nat.le_refl _))
    have HB1 := Lib.hid (HB.out.trans (hb.mono (by omega)))
    have l3 : b2 < w1.heap.size := P3.out.lt
    clear hb y0 y1 y2
    obtain ⟨y0, y1, y2, _⟩ := P3.out.three
    obtain ⟨tb, to_, rfl, ltb, a0⟩ := HT1.out.ns.rd.at_ HG.out
    go_wp2_with fail
    go_ret2
    exact ⟨rfl, by rw [← HE2.out]; exact HB1.out⟩
  · have FA := Lib.hid (find_any (seed := seed) HT0.out k (okK_spec hv).1 (by omega) (fd_gone hno))
    rw [hv] at HV
    clear hv hno
    go_enter Try.func29, Try.ntmps29
    go_wp2_with fail
    rw [← hw0, ← hb2]
    clear hw0 hb2
    refine HV.out.mono ?_
    rintro r w1 ⟨rfl, rfl⟩
    go_wp2_with fail
    refine FA.out.mono ?_
    rintro r w1 ⟨rfl, hb⟩
    have HB1 := Lib.hid (HB.out.trans (hb.mono (by omega)))
    clear hb y0 y1 y2
    go_wp2_with fail
    go_ret2
    exact ⟨rfl, by rw [← HE2.out]; exact HB1.out⟩
/-- What Put answers, and the cells behind it. -/
def Puts (seed : Int) (c : List (Cell Key)) (k : Key) (n : Int) (c' : List (Cell Key)) (e : Int) : Prop :=
  ((okK k = false ∨ n < 0) ∧ c' = c ∧ e = 2) ∨ (okK k = true ∧ 0 ≤ n ∧ (∃ i x : Nat, c[i]? = some (some (k, x))) ∧ c' = c ∧ e = 11) ∨ (okK k = true ∧ (∃ x : Nat, n = (x : Int) ∧ c' = putT (hom seed) c k x) ∧ (∀ y, some (k, y) ∉ c) ∧ e = 0)
/-- A table that lies where another one does, or in new memory. -/
def tabPost (w : World) (seed : Int) (X Y : Option Addr) (c' : List (Cell Key)) (rs : Value → Value) : Ending → World → Prop := fun r w' =>
  ∃ X' p' Y' q', r = .returned (rs (.agg #[.int .u64 seed, .slice X' c'.length p', .slice Y' c'.length q'])) ∧ Tb w' c' X' p' Y' q' ∧ Below w.heap.size w w' ∧ (∀ a, X' = some a → X = some a ∨ w.heap.size ≤ a.block) ∧ (∀ a, Y' = some a → Y = some a ∨ w.heap.size ≤ a.block)
set_option maxRecDepth 100000 in
set_option maxHeartbeats 2000000 in
theorem rput_any {w : World} {c : List (Cell Key)} {X Y : Option Addr} {p q : Nat} {seed : Int} (t : Tb w c X p Y q) (g : To.Good (hom seed) c) (hy : Kys c) (hs : U64 seed) (k : Key) (hk : k.length ≤ 1000000) (hn : c.length ≤ 100000) {n e : Int} {c' : List (Cell Key)} (h : Puts seed c k n c' e) :
    Calls Try.prog 14 #[.agg #[.int .u64 seed, .slice X c.length p, .slice Y c.length q], .string ⟨k.toArray⟩, .int .i64 n] w (tabPost w seed X Y c' fun v => .tuple #[v, .int .i64 e]) := by
  unfold tabPost
  obtain ⟨w0, hw0⟩ : ∃ w0, w0 = (w.alloc (.cells #[.int .u64 seed, .slice X c.length p, .slice Y c.length q] 31)).alloc (.cells #[.int .u64 0, .slice none 0 0, .slice none 0 0] 31) := ⟨_, rfl⟩
  have b0 : Below w.heap.size w w0 := by rw [hw0]; exact ((bnew w _).alloc (by simp) _)
  have p1 : Blk w0 w.heap.size #[.int .u64 seed, .slice X c.length p, .slice Y c.length q] 31 := by rw [hw0]; exact (Blk.new w _ _).below (bnew _ _) (by simp)
  have p2 : Blk w0 (w.heap.size + 1) #[.int .u64 0, .slice none 0 0, .slice none 0 0] 31 := by
    have := Blk.new (w.alloc (.cells #[.int .u64 seed, .slice X c.length p, .slice Y c.length q] 31)) #[.int .u64 0, .slice none 0 0, .slice none 0 0] 31
    rw [hw0]; simpa using this
  have h0 := t.below b0 (Nat.le_refl _)
  have hz0 : w.heap.size + 1 < w0.heap.size := p2.lt
  have l0 : w.heap.size < w0.heap.size := by omega
  have HB0 := Lib.hid b0; have P1 := Lib.hid p1; have P2 := Lib.hid p2; have H0 := Lib.hid h0
  have HV := Lib.hid (rok_any k w0 (by omega))
  have g1 : (c.length : Int) ≤ 100000 := by omega
  obtain ⟨c0, c1, c2, _⟩ := p1.three
  obtain ⟨r0, r1, r2, rf0, rf1, rf2⟩ := p2.three
  have HT := Lib.hid t
  clear t b0 p1 p2 h0
  rcases h with ⟨hv, rfl, rfl⟩ | ⟨hv, hn0, ⟨i, x, hi⟩, rfl, rfl⟩ | ⟨hv, ⟨x, rfl, rfl⟩, hno, rfl⟩
  · cases hv1 : okK k with
    | false =>
      rw [hv1] at HV
      clear hv hv1
      go_enter Try.func14, Try.ntmps14
      go_upto_region 1 with (fail)
      rw [← hw0]
      clear hw0
      go_wp2_with fail
      refine HV.out.mono ?_
      rintro r w1 ⟨rfl, rfl⟩
      go_wp2_with fail
      have O1 : Only (fun j => j = w.heap.size + 1) w0 (((w0.setCell ⟨w.heap.size + 1, 0, none⟩ (.int .u64 seed)).setCell ⟨w.heap.size + 1, 1, none⟩ (.slice X c'.length p)).setCell ⟨w.heap.size + 1, 2, none⟩ (.slice Y c'.length q)) := (((Only.refl (fun j => j = w.heap.size + 1) w0).put (ad := ⟨w.heap.size + 1, 0, none⟩) rfl _).put (ad := ⟨w.heap.size + 1, 1, none⟩) rfl _).put (ad := ⟨w.heap.size + 1, 2, none⟩) rfl _
      have E1 := HB0.out.trans (O1.below (B := w.heap.size) (fun j e => by omega) (by omega))
      exact bodyPost_ret (v := .tuple #[.agg #[.int .u64 seed, .slice X c'.length p, .slice Y c'.length q], .int .i64 2]) (by simp [results, Try.results14, go_sem, r0, r1, r2]) rfl ⟨_, _, _, _, rfl, HT.out.below E1 (Nat.le_refl _), E1, fun _ h => Or.inl h, fun _ h => Or.inl h⟩
    | true =>
      have hn1 : n < 0 := by rcases hv with h1 | h1; (rw [hv1] at h1; cases h1); exact h1
      rw [hv1] at HV
      clear hv hv1
      go_enter Try.func14, Try.ntmps14
      go_upto_region 1 with (fail)
      rw [← hw0]
      clear hw0
      go_wp2_with fail
      refine HV.out.mono ?_
      rintro r w1 ⟨rfl, rfl⟩
      go_wp2_with fail
      have O1 : Only (fun j => j = w.heap.size + 1) w0 (((w0.setCell ⟨w.heap.size + 1, 0, none⟩ (.int .u64 seed)).setCell ⟨w.heap.size + 1, 1, none⟩ (.slice X c'.length p)).setCell ⟨w.heap.size + 1, 2, none⟩ (.slice Y c'.length q)) := (((Only.refl (fun j => j = w.heap.size + 1) w0).put (ad := ⟨w.heap.size + 1, 0, none⟩) rfl _).put (ad := ⟨w.heap.size + 1, 1, none⟩) rfl _).put (ad := ⟨w.heap.size + 1, 2, none⟩) rfl _
      have E1 := HB0.out.trans (O1.below (B := w.heap.size) (fun j e => by omega) (by omega))
      exact bodyPost_ret (v := .tuple #[.agg #[.int .u64 seed, .slice X c'.length p, .slice Y c'.length q], .int .i64 2]) (by simp [results, Try.results14, go_sem, r0, r1, r2]) rfl ⟨_, _, _, _, rfl, HT.out.below E1 (Nat.le_refl _), E1, fun _ h => Or.inl h, fun _ h => Or.inl h⟩
  · have FA := Lib.hid (find_any (seed := seed) H0.out k (okK_spec hv).1 (by omega) (fd_there g hi))
    rw [hv] at HV
    clear hv hi
    go_enter Try.func14, Try.ntmps14
    go_upto_region 1 with (fail)
    rw [← hw0]
    clear hw0
    go_wp2_with fail
    refine HV.out.mono ?_
    rintro r w1 ⟨rfl, rfl⟩
    go_wp2_with fail
    refine FA.out.mono ?_
    rintro r w1 ⟨rfl, hb⟩
    have P3 := Lib.hid (P1.out.below hb l0); have P4 := Lib.hid (P2.out.below hb hz0)
    have HB1 := Lib.hid (HB0.out.trans (hb.mono (by omega)))
    have hz1 : w.heap.size + 1 < w1.heap.size := P4.out.lt
    have l1 : w.heap.size < w1.heap.size := by omega
    clear hb c0 c1 c2 r0 r1 r2 rf0 rf1 rf2
    obtain ⟨c0, c1, c2, _⟩ := P3.out.three
    obtain ⟨r0, r1, r2, rf0, rf1, rf2⟩ := P4.out.three
    go_wp2_with fail
    have O1 : Only (fun j => j = w.heap.size + 1) w1 (((w1.setCell ⟨w.heap.size + 1, 0, none⟩ (.int .u64 seed)).setCell ⟨w.heap.size + 1, 1, none⟩ (.slice X c'.length p)).setCell ⟨w.heap.size + 1, 2, none⟩ (.slice Y c'.length q)) := (((Only.refl (fun j => j = w.heap.size + 1) w1).put (ad := ⟨w.heap.size + 1, 0, none⟩) rfl _).put (ad := ⟨w.heap.size + 1, 1, none⟩) rfl _).put (ad := ⟨w.heap.size + 1, 2, none⟩) rfl _
    have E1 := HB1.out.trans (O1.below (B := w.heap.size) (fun j e => by omega) (by omega))
    exact bodyPost_ret (v := .tuple #[.agg #[.int .u64 seed, .slice X c'.length p, .slice Y c'.length q], .int .i64 11]) (by simp [results, Try.results14, go_sem, r0, r1, r2]) rfl ⟨_, _, _, _, rfl, HT.out.below E1 (Nat.le_refl _), E1, fun _ h => Or.inl h, fun _ h => Or.inl h⟩
  · have FA := Lib.hid (find_any (seed := seed) H0.out k (okK_spec hv).1 (by omega) (fd_gone hno))
    have HNO := Lib.hid hno
    rw [hv] at HV
    clear hv hno
    go_enter Try.func14, Try.ntmps14
    go_upto_region 1 with (fail)
    rw [← hw0]
    clear hw0
    go_wp2_with fail
    refine HV.out.mono ?_
    rintro r w1 ⟨rfl, rfl⟩
    go_wp2_with fail
    refine FA.out.mono ?_
    rintro r w1 ⟨rfl, hb⟩
    have P3 := Lib.hid (P1.out.below hb l0); have P4 := Lib.hid (P2.out.below hb hz0)
    have HB1 := Lib.hid (HB0.out.trans (hb.mono (by omega)))
    have H1 := Lib.hid (H0.out.below hb (Nat.le_refl _))
    have hz1 : w.heap.size + 1 < w1.heap.size := P4.out.lt
    have l1 : w.heap.size < w1.heap.size := by omega
    clear hb c0 c1 c2 r0 r1 r2 rf0 rf1 rf2
    obtain ⟨c0, c1, c2, _⟩ := P3.out.three
    go_wp2_with fail
    have P3d := Lib.hid (show Blk w1.drew w.heap.size _ _ from P3.out)
    have P4d := Lib.hid (show Blk w1.drew (w.heap.size + 1) _ _ from P4.out)
    have H1d : Hid (Tb w1.drew c X p Y q) := H1.out.below ((Below.refl w1.heap.size w1).drew) (Nat.le_refl _)
    have B1d := Lib.hid HB1.out.drew
    have hzd : w.heap.size + 1 < w1.drew.heap.size := hz1
    have hcl := cnt_le c
    have hw1 : IntKind.i64.wrap ((cnt c : Int) + 1) = (cnt c : Int) + 1 := IntWalk.i64_in _ (by omega)
    have hw2 : IntKind.i64.wrap (4 * ((cnt c : Int) + 1)) = 4 * ((cnt c : Int) + 1) := IntWalk.i64_in _ (by omega)
    have hw3 : IntKind.i64.wrap (3 * (c.length : Int)) = 3 * (c.length : Int) := IntWalk.i64_in _ (by omega)
    have hnf := g.free
    refine wp_region_noPanic ?_
    refine wp_region_held_drew (S := fun v => v.cell? ⟨w.heap.size, 0, none⟩ = some (.int .u64 seed) ∧ v.cell? ⟨w.heap.size, 1, none⟩ = some (.slice X c.length p) ∧ v.cell? ⟨w.heap.size, 2, none⟩ = some (.slice Y c.length q)) (by kernel_rfl) (⟨c0, c1, c2⟩) (fun hHeld => ?_)
    generalize w1.drew = u at P3d P4d H1d B1d hzd hHeld ⊢
    refine wpAnyH_take (i := 0) (oi := ⟨some 21, _, _, _, _, _⟩) (v := ?_) rfl (by kernel_rfl) (by kernel_rfl) (by kernel_rfl) (fun _ _ _ h => h) (Or.inl ⟨by rfl, ?_⟩) (by assumption) ?_
    rotate_left
    · intro w hSw; go_simp; first | done | with_reducible rfl
    try simp only [Act.put, List.setIfInBounds_toArray, List.set_cons_zero, List.set_cons_succ]
    refine wpAnyH_take (i := 4) (oi := ⟨some 25, _, _, _, _, _⟩) (v := ?_) rfl (by kernel_rfl) (by kernel_rfl) (by kernel_rfl) (fun _ _ _ h => h) (Or.inl ⟨by rfl, ?_⟩) (by assumption) ?_
    rotate_left
    · intro w hSw; go_simp; first | done | with_reducible rfl
    try simp only [Act.put, List.setIfInBounds_toArray, List.set_cons_zero, List.set_cons_succ]
    refine wpAnyH_take (i := 5) (oi := ⟨some 26, _, _, _, _, _⟩) (v := ?_) rfl (by kernel_rfl) (by kernel_rfl) (by kernel_rfl) (fun _ _ _ h => h) (Or.inl ⟨by rfl, ?_⟩) (by assumption) ?_
    rotate_left
    · intro w hSw; go_simp; first | done | with_reducible rfl
    try simp only [Act.put, List.setIfInBounds_toArray, List.set_cons_zero, List.set_cons_succ]
    refine wpAnyH_take (i := 6) (oi := ⟨some 27, _, _, _, _, _⟩) (v := ?_) rfl (by kernel_rfl) (by kernel_rfl) (by kernel_rfl) (fun _ _ _ h => h) (Or.inl ⟨by rfl, ?_⟩) (by assumption) ?_
    rotate_left
    · intro w hSw; go_simp; first | done | with_reducible rfl
    try simp only [Act.put, List.setIfInBounds_toArray, List.set_cons_zero, List.set_cons_succ]
    refine wpAnyH_take (i := 7) (oi := ⟨some 28, _, _, _, _, _⟩) (v := ?_) rfl (by kernel_rfl) (by kernel_rfl) (by kernel_rfl) (fun _ _ _ h => h) (Or.inl ⟨by rfl, ?_⟩) (by assumption) ?_
    rotate_left
    · intro w hSw; go_simp; first | done | with_reducible rfl
    try simp only [Act.put, List.setIfInBounds_toArray, List.set_cons_zero, List.set_cons_succ]
    refine wpAnyH_ready (rs := [1]) (by kernel_rfl) (by simp) ?_
    refine AllReadyH.cons (o := ⟨some 22, _, _, _, _, _⟩) rfl (fun K hK => ?_) AllReadyH.nil
    go_simp
    refine (tlen_any (seed := seed) H1d.out hy (by omega)).mono ?_
    rintro r u2 ⟨rfl, hb⟩
    have P3e := Lib.hid (P3d.out.below hb P3d.out.lt); have P4e := Lib.hid (P4d.out.below hb P4d.out.lt); have H1e := Lib.hid (H1d.out.below hb (Nat.le_refl _))
    have B1e := Lib.hid (B1d.out.trans (hb.mono (by omega)))
    have hze : w.heap.size + 1 < u2.heap.size := P4e.out.lt
    clear hb
    go_simp
    refine hK.out _ _ (⟨P3e.out.cell 0, P3e.out.cell 1, P3e.out.cell 2⟩) (fun hHeld => ?_)
    clear hK K
    try simp only [Act.put, List.setIfInBounds_toArray, List.set_cons_zero, List.set_cons_succ]
    refine wpAnyH_take (i := 2) (oi := ⟨some 23, _, _, _, _, _⟩) (v := ?_) rfl (by kernel_rfl) (by kernel_rfl) (by kernel_rfl) (fun _ _ _ h => h) (Or.inl ⟨by rfl, ?_⟩) (by assumption) ?_
    rotate_left
    · intro w hSw; go_simp; first | done | with_reducible rfl
    try simp only [Act.put, List.setIfInBounds_toArray, List.set_cons_zero, List.set_cons_succ]
    refine wpAnyH_take (i := 3) (oi := ⟨some 24, _, _, _, _, _⟩) (v := ?_) rfl (by kernel_rfl) (by kernel_rfl) (by kernel_rfl) (fun _ _ _ h => h) (Or.inl ⟨by rfl, ?_⟩) (by assumption) ?_
    rotate_left
    · intro w hSw; go_simp; first | done | with_reducible rfl
    try simp only [Act.put, List.setIfInBounds_toArray, List.set_cons_zero, List.set_cons_succ]
    refine wpAnyH_take (i := 8) (oi := ⟨some 29, _, _, _, _, _⟩) (v := ?_) rfl (by kernel_rfl) (by kernel_rfl) (by kernel_rfl) (fun _ _ _ h => h) (Or.inl ⟨by rfl, ?_⟩) (by assumption) ?_
    rotate_left
    · intro w hSw; go_simp; first | done | with_reducible rfl
    try simp only [Act.put, List.setIfInBounds_toArray, List.set_cons_zero, List.set_cons_succ]
    refine wpAnyH_done (by kernel_rfl) ?_ _
    refine NoPanic.normal ?_
    have hB1 := Lib.hid hHeld
    clear hB1 hHeld c0 c1 c2
    have hlo := g.lo
    by_cases hB : 3 * c.length < 4 * (cnt c + 1)
    · have j1 : 3 * (c.length : Int) < 4 * ((cnt c : Int) + 1) := by omega
      have RS := Lib.hid (resize_any (seed := seed) H1e.out hy g.tab (2 * c.length) (by omega) (by omega) (by omega) hs (by omega))
      rw [show ((2 * c.length : Nat) : Int) = 2 * (c.length : Int) by omega] at RS
      unfold resPost at RS
      obtain ⟨a1, a2, a3, a4⟩ := size_tab g.tab (hom_lt seed (2 * c.length) (by omega)) (show cnt c ≤ 2 * c.length by omega)
      have HE : Hid (putT (hom seed) c k x = putC (hom seed (2 * c.length)) (sizeC (hom seed (2 * c.length)) (2 * c.length) c) k x) := by
        show _ = _
        unfold putT roomT
        rw [if_pos hB, a2]
      obtain ⟨out, hout⟩ : ∃ out, out = sizeC (hom seed (2 * c.length)) (2 * c.length) c := ⟨_, rfl⟩
      rw [← hout] at RS HE a2 a3 a4
      have HA2 := Lib.hid a2
      have hy1 : Hid (Kys out) := fun k y hm => hy k y ((a4 _).1 hm)
      have hf1 : Hid (none ∈ out) := free_of_cnt (by omega)
      obtain ⟨d0, d1, d2, df0, df1, df2⟩ := P3e.out.three
      have ld : w.heap.size < u2.heap.size := by omega
      clear hout a1 a2 a3 a4 hB hw1 hw2 hw3
      go_wp2_with fail
      refine RS.out.mono ?_
      rintro r u3 ⟨X2, p2, Y2, q2, rfl, ho, hb⟩
      have HO := Lib.hid ho
      have P3f := Lib.hid (P3e.out.below hb P3e.out.lt); have P4f := Lib.hid (P4e.out.below hb P4e.out.lt)
      have B1f := Lib.hid (B1e.out.trans (hb.mono (by omega)))
      have hzf : u2.heap.size ≤ u3.heap.size := hb.size
      have lf : w.heap.size < u3.heap.size := by omega
      clear ho hb RS d0 d1 d2 df0 df1 df2
      obtain ⟨d0, d1, d2, df0, df1, df2⟩ := P3f.out.three
      go_upto_region 7 with (fail)
      obtain ⟨u4, hu4⟩ : ∃ u4, u4 = ((u3.setCell ⟨w.heap.size, 0, none⟩ (.int .u64 seed)).setCell ⟨w.heap.size, 1, none⟩ (.slice X2 (2 * c.length) p2)).setCell ⟨w.heap.size, 2, none⟩ (.slice Y2 (2 * c.length) q2) := ⟨_, rfl⟩
      have O4 : Only (fun j => j = w.heap.size) u3 u4 := by rw [hu4]; exact (((Only.refl (fun j => j = w.heap.size) u3).put (ad := ⟨w.heap.size, 0, none⟩) rfl _).put (ad := ⟨w.heap.size, 1, none⟩) rfl _).put (ad := ⟨w.heap.size, 2, none⟩) rfl _
      have R4 : Hid (Blk u4 w.heap.size #[.int .u64 seed, .slice X2 (2 * c.length) p2, .slice Y2 (2 * c.length) q2] 31) := by
        have h1 := ((P3f.out.set 0 (.int .u64 seed)).set 1 (.slice X2 (2 * c.length) p2)).set 2 (.slice Y2 (2 * c.length) q2)
        show Blk _ _ _ _
        rw [hu4]; exact h1
      have P4g := Lib.hid (P4f.out.only O4 (by omega))
      have HO4 := Lib.hid (HO.out.only O4 (fun j e => Or.inl (by omega)))
      have B1g : Hid (Below w.heap.size w u4) := B1f.out.trans (O4.below (fun j e => by omega) (by omega))
      have hzg : u3.heap.size ≤ u4.heap.size := O4.size
      have FI := Lib.hid (Tc.first_any (seed := seed) HO4.out.tb hy1.out hf1.out k x hk hs (by rw [HA2.out]; omega))
      unfold firstPost at FI
      rw [HA2.out] at FI
      rw [← hu4]
      clear hu4 O4 d0 d1 d2 df0 df1 df2
      obtain ⟨d0, d1, d2, _⟩ := R4.out.three
      go_wp2_with fail
      refine FI.out.mono ?_
      rintro r u5 ⟨X3, p3, Y3, q3, rfl, ho, hb⟩
      rw [← HE.out] at ho
      have HO5 := Lib.hid ho
      have P4h := Lib.hid (P4g.out.below hb P4g.out.lt)
      have B1h := Lib.hid (B1g.out.trans (hb.mono (by omega)))
      have hzh : u4.heap.size ≤ u5.heap.size := hb.size
      have lh : w.heap.size + 1 < u5.heap.size := P4h.out.lt
      clear ho hb FI d0 d1 d2
      obtain ⟨r0, r1, r2, rf0, rf1, rf2⟩ := P4h.out.three
      go_wp2_with fail
      obtain ⟨v6, hv6⟩ : ∃ v6, v6 = ((u5.setCell ⟨w.heap.size + 1, 0, none⟩ (.int .u64 seed)).setCell ⟨w.heap.size + 1, 1, none⟩ (.slice X3 (2 * c.length) p3)).setCell ⟨w.heap.size + 1, 2, none⟩ (.slice Y3 (2 * c.length) q3) := ⟨_, rfl⟩
      have O6 : Only (fun j => j = w.heap.size + 1) u5 v6 := by rw [hv6]; exact (((Only.refl (fun j => j = w.heap.size + 1) u5).put (ad := ⟨w.heap.size + 1, 0, none⟩) rfl _).put (ad := ⟨w.heap.size + 1, 1, none⟩) rfl _).put (ad := ⟨w.heap.size + 1, 2, none⟩) rfl _
      have R6 : Blk v6 (w.heap.size + 1) #[.int .u64 seed, .slice X3 (2 * c.length) p3, .slice Y3 (2 * c.length) q3] 31 := by
        have h1 := ((P4h.out.set 0 (.int .u64 seed)).set 1 (.slice X3 (2 * c.length) p3)).set 2 (.slice Y3 (2 * c.length) q3)
        rw [hv6]; exact h1
      have hlen : (putT (hom seed) c k x).length = 2 * c.length := by rw [HE.out]; unfold putC; rw [List.length_set, HA2.out]
      have E1 : Below w.heap.size w v6 := B1h.out.trans (O6.below (fun j e => by omega) (by omega))
      have E2 : Tb v6 (putT (hom seed) c k x) X3 p3 Y3 q3 := (HO5.out.only O6 (fun j e => Or.inl (by omega))).tb
      have EX : ∀ a, X3 = some a → X = some a ∨ w.heap.size ≤ a.block := fun a ha => Or.inr (by have := (HO5.out.ks.base ha).1; omega)
      have EY : ∀ a, Y3 = some a → Y = some a ∨ w.heap.size ≤ a.block := fun a ha => Or.inr (by have := (HO5.out.ns.base ha).1; omega)
      rw [← hv6]
      clear hv6 O6 r0 r1 r2 rf0 rf1 rf2
      obtain ⟨r0, r1, r2, _⟩ := R6.three
      exact bodyPost_ret (v := .tuple #[.agg #[.int .u64 seed, .slice X3 (2 * c.length) p3, .slice Y3 (2 * c.length) q3], .int .i64 0]) (by simp [results, Try.results14, go_sem, r0, r1, r2]) rfl ⟨X3, p3, Y3, q3, by rw [hlen], E2, E1, EX, EY⟩
    · have j1 : 4 * ((cnt c : Int) + 1) ≤ 3 * (c.length : Int) := by omega
      have FI := Lib.hid (Tc.first_any (seed := seed) H1e.out hy hnf k x hk hs (by omega))
      unfold firstPost at FI
      have HE : Hid (putT (hom seed) c k x = putC (hom seed c.length) c k x) := by show _ = _; unfold putT roomT; rw [if_neg hB]
      clear hB hw1 hw2 hw3
      obtain ⟨d0, d1, d2, _⟩ := P3e.out.three
      go_wp2_with fail
      refine FI.out.mono ?_
      rintro r u3 ⟨X3, p3, Y3, q3, rfl, ho, hb⟩
      rw [← HE.out] at ho
      have HO5 := Lib.hid ho
      have P4h := Lib.hid (P4e.out.below hb P4e.out.lt)
      have B1h := Lib.hid (B1e.out.trans (hb.mono (by omega)))
      have hzh : u2.heap.size ≤ u3.heap.size := hb.size
      have lh : w.heap.size + 1 < u3.heap.size := P4h.out.lt
      clear ho hb FI d0 d1 d2
      obtain ⟨r0, r1, r2, rf0, rf1, rf2⟩ := P4h.out.three
      go_wp2_with fail
      obtain ⟨v6, hv6⟩ : ∃ v6, v6 = ((u3.setCell ⟨w.heap.size + 1, 0, none⟩ (.int .u64 seed)).setCell ⟨w.heap.size + 1, 1, none⟩ (.slice X3 c.length p3)).setCell ⟨w.heap.size + 1, 2, none⟩ (.slice Y3 c.length q3) := ⟨_, rfl⟩
      have O6 : Only (fun j => j = w.heap.size + 1) u3 v6 := by rw [hv6]; exact (((Only.refl (fun j => j = w.heap.size + 1) u3).put (ad := ⟨w.heap.size + 1, 0, none⟩) rfl _).put (ad := ⟨w.heap.size + 1, 1, none⟩) rfl _).put (ad := ⟨w.heap.size + 1, 2, none⟩) rfl _
      have R6 : Blk v6 (w.heap.size + 1) #[.int .u64 seed, .slice X3 c.length p3, .slice Y3 c.length q3] 31 := by
        have h1 := ((P4h.out.set 0 (.int .u64 seed)).set 1 (.slice X3 c.length p3)).set 2 (.slice Y3 c.length q3)
        rw [hv6]; exact h1
      have hlen : (putT (hom seed) c k x).length = c.length := by rw [HE.out]; unfold putC; rw [List.length_set]
      have E1 : Below w.heap.size w v6 := B1h.out.trans (O6.below (fun j e => by omega) (by omega))
      have E2 : Tb v6 (putT (hom seed) c k x) X3 p3 Y3 q3 := (HO5.out.only O6 (fun j e => Or.inl (by omega))).tb
      have EX : ∀ a, X3 = some a → X = some a ∨ w.heap.size ≤ a.block := fun a ha => Or.inr (by have := (HO5.out.ks.base ha).1; omega)
      have EY : ∀ a, Y3 = some a → Y = some a ∨ w.heap.size ≤ a.block := fun a ha => Or.inr (by have := (HO5.out.ns.base ha).1; omega)
      rw [← hv6]
      clear hv6 O6 r0 r1 r2 rf0 rf1 rf2
      obtain ⟨r0, r1, r2, _⟩ := R6.three
      exact bodyPost_ret (v := .tuple #[.agg #[.int .u64 seed, .slice X3 c.length p3, .slice Y3 c.length q3], .int .i64 0]) (by simp [results, Try.results14, go_sem, r0, r1, r2]) rfl ⟨X3, p3, Y3, q3, by rw [hlen], E2, E1, EX, EY⟩
end Go.Proofs.Ythabnffmlgppdaa.Tf
