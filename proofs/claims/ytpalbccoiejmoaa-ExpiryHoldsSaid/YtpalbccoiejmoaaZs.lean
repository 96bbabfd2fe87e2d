/- Proves that sift brings the slot at a place of the program's heap to where it belongs. Conditions: as the theorem names them. -/
import Derived.Test.YtpalbccoiejmoaaZl
namespace Go.Proofs.Ytpalbccoiejmoaa.Zs
open Go.RowKit Go.Maps Ap Mi Nw Ya Yb Yc Zk Zm Za Zl

/-- The slots that a row holds. -/
def cI (w : World) (b j : Nat) : Int := match w.cell? ⟨b, j, none⟩ with
  | some v => intOf v
  | none => 0
def rdQ (w : World) (b o n : Nat) : List Td := (List.range n).map fun k => (cI w b (o + k * 2), cI w b (o + k * 2 + 1))
theorem rdQ_eq {w : World} {g c b o B : Nat} {D : DataW Unit} {Q : List Td} {n : Nat} (h : Lo w g (some ⟨b, o, none⟩) c B D Q) (hn : Q.length = n) : rdQ w b o n = Q := by
  subst hn
  refine List.ext_getElem (by simp [rdQ]) fun k h1 h2 => ?_
  obtain ⟨b', o', e, _, e1, e2⟩ := h.at_ h2
  injection e with e; injection e with ea eb
  subst ea; subst eb
  have e3 : (rdQ w b o Q.length)[k] = (cI w b (o + k * 2), cI w b (o + k * 2 + 1)) := by simp only [rdQ, List.getElem_map, List.getElem_range]
  rw [e3, ← A_get h2]
  have e4 : cI w b (o + k * 2) = (Zm.A Q k).1 := by unfold cI; rw [e1]; rfl
  have e5 : cI w b (o + k * 2 + 1) = (Zm.A Q k).2 := by unfold cI; rw [e2]; rfl
  rw [e4, e5]
/-- The cells of a slot may be written. -/
theorem Lo_cells {w : World} {g c b o B : Nat} {D : DataW Unit} {Q : List Td} (h : Lo w g (some ⟨b, o, none⟩) c B D Q) {i : Nat} (hi : i < Q.length) :
    w.cell? ⟨b, o + i * 2, none⟩ = some (.int .i64 (Zm.A Q i).1) ∧ w.cell? ⟨b, o + i * 2 + 1, none⟩ = some (.int .u64 (Zm.A Q i).2) ∧ w.frozen? ⟨b, o + i * 2, none⟩ = false ∧ w.frozen? ⟨b, o + i * 2 + 1, none⟩ = false := by
  obtain ⟨h0, h1⟩ := tv_get Q i hi
  obtain ⟨a1, a2⟩ := mine_cell h.mi h0
  obtain ⟨b1, b2⟩ := mine_cell h.mi h1
  rw [A_get hi]
  exact ⟨a1, by rw [Nat.add_assoc]; exact b1, a2, by rw [Nat.add_assoc]; exact b2⟩
theorem Lo_inb {w : World} {g c b o B : Nat} {D : DataW Unit} {Q : List Td} (h : Lo w g (some ⟨b, o, none⟩) c B D Q) : b < w.heap.size := (h.mi.base rfl).2.1
theorem tv_set : ∀ (Q : List Td) (i : Nat) (y : Td), ((tv Q).set (i * 2) (.int .i64 y.1)).set (i * 2 + 1) (.int .u64 y.2) = tv (Q.set i y)
  | [], i, y => by simp [tv]
  | x :: r, 0, y => rfl
  | x :: r, i + 1, y => by
    have := tv_set r i y
    rw [show (i + 1) * 2 = i * 2 + 1 + 1 from by omega]
    show List.set (List.set (.int .i64 x.1 :: .int .u64 x.2 :: tv r) (i * 2 + 1 + 1) (.int .i64 y.1)) (i * 2 + 1 + 1 + 1) (.int .u64 y.2) = .int .i64 x.1 :: .int .u64 x.2 :: tv (r.set i y)
    rw [List.set_cons_succ, List.set_cons_succ, List.set_cons_succ, List.set_cons_succ, this]
/-- A slot is written. -/
def putW (w : World) (b o i : Nat) (y : Td) : World := (w.setCell ⟨b, o + i * 2, none⟩ (.int .i64 y.1)).setCell ⟨b, o + i * 2 + 1, none⟩ (.int .u64 y.2)
theorem put_lo {w : World} {g c b o B : Nat} {D : DataW Unit} {Q : List Td} (h : Lo w g (some ⟨b, o, none⟩) c B D Q) {i : Nat} (hi : i < Q.length) (y : Td) :
    Lo (putW w b o i y) g (some ⟨b, o, none⟩) c B D (Q.set i y) ∧ Only (fun j => j = b) w (putW w b o i y) := by
  have ho : Only (fun j => j = b) w (putW w b o i y) := ((Only.refl (fun j => j = b) w).put (ad := ⟨b, o + i * 2, none⟩) rfl _).put (ad := ⟨b, o + i * 2 + 1, none⟩) rfl _
  obtain ⟨r1, r2⟩ := h.ra _ rfl
  have hl := tv_len Q
  have hm := (h.mi.store (i * 2) (by omega) (.int .i64 y.1)).store (i * 2 + 1) (by rw [List.length_set]; omega) (.int .u64 y.2)
  rw [tv_set] at hm
  refine ⟨⟨?_, h.ob.kept ho (fun e => r2 e.symm), ?_, h.gb, h.ra⟩, ho⟩
  · rw [List.length_set]; exact h.bk.only ho (fun e => r1 e.symm)
  · rw [List.length_set]; exact hm
theorem swap_lo {w : World} {g c b o B : Nat} {D : DataW Unit} {R : List Td} (h : Lo w g (some ⟨b, o, none⟩) c B D R) {K T : Nat} (hK : K < R.length) (hT : T < R.length) :
    Lo (putW (putW w b o K (Zm.A R T)) b o T (Zm.A R K)).drew g (some ⟨b, o, none⟩) c B D (swp R K T) ∧ Only (fun j => j = B ∨ j = b) w (putW (putW w b o K (Zm.A R T)) b o T (Zm.A R K)).drew := by
  obtain ⟨a1, a2⟩ := put_lo h hK (Zm.A R T)
  obtain ⟨b1, b2⟩ := put_lo a1 (i := T) (by rw [List.length_set]; exact hT) (Zm.A R K)
  exact ⟨b1.drewN 1, ((a2.trans (b2.mono fun _ _ e => Or.inl e)).drewN 1).mono fun _ _ e => Or.inr e⟩
def siftPost (w : World) (g b o c B : Nat) (p : Int → Prop) (k : Nat) (x : Td) (Q : List Td) : Ending → World → Prop := fun e w' => ∃ D' Q' f' k', e = .returned (.tuple #[]) ∧ Lo w' g (some ⟨b, o, none⟩) c B D' Q' ∧ Q'.Perm Q ∧ HeapQ Q' ∧ Plc f' Q' ∧ Md D' (fun m => m = x.1 ∨ p m) k' f' ∧ (p x.1 → k' = k) ∧ (¬ p x.1 → k' = k + 1) ∧ Only (fun j => j = B ∨ j = b) w w'
theorem in_sl {n : Int} (h : Sl n) : In n := ⟨by have := h.1; omega, by have := h.2; omega⟩
/-- What stands in a loop of sift. -/
structure St (w : World) (g b o c B : Nat) (p : Int → Prop) (k : Nat) (x : Td) (Q : List Td) (wr : World) (K : Nat) (R : List Td) (D : DataW Unit) (f : Int → Int) : Prop where
  lt : K < R.length
  len : R.length = Q.length
  perm : R.Perm Q
  hole : Hole R K
  at_ : Zm.A R K = x
  plc : PlcX f R K
  md : Md D p k f
  lo : Lo wr g (some ⟨b, o, none⟩) c B D R
  on : Only (fun j => j = B ∨ j = b) w wr
section
variable {w wr w3 : World} {g b o c B k K : Nat} {p : Int → Prop} {x : Td} {Q R : List Td} {D : DataW Unit} {f : Int → Int}
theorem St.key (S : St w g b o c B p k x Q wr K R D f) (hp : ∀ m ∈ ns Q, m ≠ x.1 → p m) (hd : (ns Q).Nodup) {T : Nat} (hT : T < R.length) (hTK : T ≠ K) : p (Zm.A R T).1 := by
  refine hp _ ((ns_mem S.perm _).1 (A_ns hT)) (fun e => hTK ?_)
  refine nd_at (ns_nd S.perm hd) hT S.lt ?_
  rw [e, S.at_]
theorem St.next (S : St w g b o c B p k x Q wr K R D f) (hp : ∀ m ∈ ns Q, m ≠ x.1 → p m) (hd : (ns Q).Nodup) {T : Nat} (hT : T < R.length) (hTK : T ≠ K) (hole : Hole (swp R K T) T)
    (lo : Lo w3 g (some ⟨b, o, none⟩) c B (D.put (kl (Zm.A (swp R K T) K).1) (.lit (.int .i64 (K : Int)))) (swp R K T)) (on : Only (fun j => j = B ∨ j = b) w w3) :
    St w g b o c B p k x Q w3 T (swp R K T) (D.put (kl (Zm.A (swp R K T) K).1) (.lit (.int .i64 (K : Int)))) (upd f (Zm.A (swp R K T) K).1 (K : Int)) := by
  have e1 : Zm.A (swp R K T) K = Zm.A R T := by rw [swp_at S.lt hT, if_neg (fun e => hTK e.symm), if_pos rfl]
  have hk := S.key hp hd hT hTK
  refine ⟨by rw [swp_len]; exact hT, by rw [swp_len]; exact S.len, (swp_perm S.lt hT).trans S.perm, hole, ?_, fun j hj hjT => ?_, ?_, lo, on⟩
  · rw [swp_at S.lt hT, if_pos rfl]; exact S.at_
  · rw [swp_len] at hj
    rw [e1]
    by_cases e : j = K
    · subst e; rw [e1, upd_eq]
    · rw [swp_at S.lt hT, if_neg hjT, if_neg e, upd_ne (fun h => hjT (nd_at (ns_nd S.perm hd) hj hT h))]
      exact S.plc j hj e
  · rw [e1]; exact S.md.put_old hk _
theorem St.end_ (S : St w g b o c B p k x Q wr K R D f) (hd : (ns Q).Nodup) (hh : HeapQ R)
    (lo : Lo w3 g (some ⟨b, o, none⟩) c B (D.put (kl (Zm.A R K).1) (.lit (.int .i64 (K : Int)))) R) (on : Only (fun j => j = B ∨ j = b) w w3) : siftPost w g b o c B p k x Q (.returned (.tuple #[])) w3 := by
  have hpl : Plc (upd f (Zm.A R K).1 (K : Int)) R := fun j hj => by
    by_cases e : j = K
    · subst e; exact upd_eq _ _ _
    · rw [upd_ne (fun h => e (nd_at (ns_nd S.perm hd) hj S.lt h))]
      exact S.plc j hj e
  rw [S.at_] at lo hpl
  refine ⟨_, R, _, _, rfl, lo, S.perm, hh, hpl, S.md.put_raw _ _ rfl, fun hx => (S.md.put_old hx _).sz, fun hx => (S.md.put_new hx _).sz, on⟩
end
/-- How far the search among those below has come. -/
structure Ch (R : List Td) (K T M : Nat) : Prop where
  ge : 2 * K + 1 ≤ M
  le : M ≤ 2 * K + 3
  tl : T < R.length
  ch : T = K ∨ (2 * K + 1 ≤ T ∧ T ≤ 2 * K + 2 ∧ bf (Zm.A R T) (Zm.A R K))
  mn : ∀ d, 2 * K + 1 ≤ d → d < M → d < R.length → ¬ bf (Zm.A R d) (Zm.A R T)
section
variable {R : List Td} {K T M : Nat}
theorem Ch.start (h : K < R.length) : Ch R K K (2 * K + 1) := ⟨Nat.le_refl _, by omega, h, Or.inl rfl, fun d h1 h2 => by omega⟩
theorem Ch.yes (h : Ch R K T M) (hm : M ≤ 2 * K + 2) (hl : M < R.length) (hb : bf (Zm.A R M) (Zm.A R T)) : Ch R K M (M + 1) := by
  have hg := h.ge
  refine ⟨by omega, by omega, hl, Or.inr ⟨hg, hm, ?_⟩, fun d h1 h2 h3 => ?_⟩
  · rcases h.ch with e | ⟨_, _, e⟩
    · rw [e] at hb; exact hb
    · exact bf_trans hb e
  · by_cases e : d = M
    · subst e; exact bf_irr _
    · have := h.mn d h1 (by omega) h3
      intro hdm
      exact this (bf_trans hdm hb)
theorem Ch.no (h : Ch R K T M) (hm : M ≤ 2 * K + 2) (hb : ¬ bf (Zm.A R M) (Zm.A R T)) : Ch R K T (M + 1) := by
  have hg := h.ge
  refine ⟨by omega, by omega, h.tl, h.ch, fun d h1 h2 h3 => ?_⟩
  by_cases e : d = M
  · subst e; exact hb
  · exact h.mn d h1 (by omega) h3
theorem Ch.all (h : Ch R K T M) (hm : ¬ (M ≤ 2 * K + 2 ∧ M < R.length)) : ∀ d, 0 < d → d < R.length → par d = K → ¬ bf (Zm.A R d) (Zm.A R T) := fun d h0 h1 h2 => by
  have := h.ge; have := h.le
  unfold par at h2
  exact h.mn d (by omega) (by omega) h1
theorem Ch.done {w : World} {g b o c B k : Nat} {p : Int → Prop} {x : Td} {Q : List Td} {D : DataW Unit} {f : Int → Int} {wr : World} (h : Ch R K T M) (S : St w g b o c B p k x Q wr K R D f) (hn : ¬ bf (Zm.A R K) (Zm.A R (par K))) (hm : ¬ (M ≤ 2 * K + 2 ∧ M < R.length)) (e : T = K) : HeapQ R :=
  S.hole.done (fun _ => hn) (fun d h0 h1 h2 => by have := h.all hm d h0 h1 h2; rw [e] at this; exact this)
theorem Ch.down {w : World} {g b o c B k : Nat} {p : Int → Prop} {x : Td} {Q : List Td} {D : DataW Unit} {f : Int → Int} {wr : World} (h : Ch R K T M) (S : St w g b o c B p k x Q wr K R D f) (hn : ¬ bf (Zm.A R K) (Zm.A R (par K))) (hm : ¬ (M ≤ 2 * K + 2 ∧ M < R.length)) (e : T ≠ K) :
    Hole (swp R K T) T ∧ mu (swp R K T) T < mu R K := by
  rcases h.ch with e' | ⟨t1, t2, tb⟩
  · exact absurd e' e
  · have hp : par T = K := by unfold par; omega
    exact ⟨S.hole.down S.lt (by omega) h.tl hp tb (h.all hm), mu_down S.lt (by omega) h.tl hp hn tb⟩
end
set_option maxRecDepth 100000 in
set_option maxHeartbeats 4000000 in
theorem sift_any {w : World} {g b o c B i k : Nat} {D : DataW Unit} {Q : List Td} {p : Int → Prop} {f : Int → Int} (h : Lo w g (some ⟨b, o, none⟩) c B D Q) (hi : i < Q.length) (hd : (ns Q).Nodup) (hs : ∀ x ∈ Q, Sl x.1)
    (hm : Md D p k f) (hp : ∀ m ∈ ns Q, m ≠ (Zm.A Q i).1 → p m) (hf : PlcX f Q i) (ho : Hole Q i) (hk : k ≤ 1999990) (hl : Q.length ≤ 1999990) :
    Calls Try.prog 44 #[.slice (some ⟨b, o, none⟩) Q.length c, .int .i64 (i : Int), .func (.func 45) #[.pointer (some ⟨g, 0, none⟩)] #[], .func (.func 46) #[.pointer (some ⟨g, 0, none⟩)] #[]] w (siftPost w g b o c B p k (Zm.A Q i) Q) := by
  obtain ⟨x, hx⟩ : ∃ x, x = Zm.A Q i := ⟨_, rfl⟩
  rw [← hx] at hp ⊢
  have ST0 := Lib.hid (St.mk (w := w) (k := k) (x := x) hi rfl (List.Perm.refl _) ho hx.symm hf hm h (Only.refl _ _))
  obtain ⟨n, hn⟩ : ∃ n, n = Q.length := ⟨_, rfl⟩
  have HN := Lib.hid hn
  rw [← hn] at hl ⊢
  have HP := Lib.hid hp; have HD := Lib.hid hd; have HS := Lib.hid hs; have HKL := Lib.hid hk
  clear h hi hd hs hm hp hf ho hx hk hn
  go_enter Try.func44, Try.ntmps44
  go_wp2_with fail
  go_loopw [1] (fun u wr => ∃ K : Nat, u = .int .i64 (K : Int) ∧ ∃ R D1 f1, Hid (St w g b o c B p k x Q wr K R D1 f1)) (fun u wr => mu (rdQ wr b o n) (intOf u).toNat)
  case atStart => exact ⟨i, rfl, Q, D, f, ST0⟩
  case round =>
    obtain ⟨K, rfl, R, D1, f1, S1⟩ := hrel
    have hRn : R.length = n := by rw [HN.out]; exact S1.out.len
    have hKn : K < n := by rw [← hRn]; exact S1.out.lt
    have hKI : (K : Int) < (n : Int) := by omega
    have hPn : par K < n := by unfold par; omega
    have hq : ((K : Int) - 1).tdiv 2 = (par K : Int) := by
      unfold par
      rcases Nat.eq_zero_or_pos K with e | e
      · subst e; rfl
      · rw [Int.tdiv_eq_ediv_of_nonneg (by omega)]; omega
    have HB1 := Lib.hid (before_any S1.out.lo (i := K) (j := par K) (by omega) (by omega))
    by_cases hb : bf (Zm.A R K) (Zm.A R (par K))
    · rw [decide_eq_true hb] at HB1
      go_wp2_with fail
      refine HB1.out.mono ?_
      rintro e w1 ⟨rfl, hb1⟩
      have LO := Lib.hid (S1.out.lo.below hb1 (Nat.le_refl _))
      have ON := Lib.hid (S1.out.on.trans (Only.of_below hb1 (Nat.le_refl _) _))
      clear hb1 HB1 hq
      obtain ⟨T, hT⟩ : ∃ T, T = par K := ⟨_, rfl⟩
      have k0 : 0 < K := by
        rcases Nat.eq_zero_or_pos K with e | e
        · subst e; exact absurd hb (bf_irr _)
        · exact e
      have hTn : T < n := by have := par_lt k0; omega
      have hTK : T ≠ K := by have := par_lt k0; omega
      have HOLE : Hid (Hole (swp R K T) T) := by show Hole _ _; rw [hT]; exact S1.out.hole.up S1.out.lt k0
      have HMU : Hid (mu (swp R K T) T < mu R K) := by show _ < _; rw [hT]; exact mu_up k0 hb
      rw [← hT]
      clear hT hb hPn
      have tI : (T : Int) < (n : Int) := by omega
      have hTI : ((T : Int) == (K : Int)) = false := by simp; omega
      have hTR : T < R.length := by omega
      have PK := Lib.hid (Lo_cells LO.out (i := K) (by omega))
      have PT := Lib.hid (Lo_cells LO.out (i := T) (by omega))
      have ltb := Lo_inb LO.out
      have LS := Lib.hid (swap_lo LO.out (K := K) (T := T) S1.out.lt hTR)
      unfold putW at LS
      obtain ⟨k0c, k1c, k0f, k1f⟩ := PK.out
      obtain ⟨t0c, t1c, t0f, t1f⟩ := PT.out
      clear hRn
      go_wp2_with fail
      go_region
      obtain ⟨w2, hw2⟩ : ∃ w2, w2 = ((((w1.setCell ⟨b, o + K * 2, none⟩ (Value.int IntKind.i64 (Zm.A R T).1)).setCell ⟨b, o + K * 2 + 1, none⟩ (Value.int IntKind.u64 (Zm.A R T).2)).setCell ⟨b, o + T * 2, none⟩ (Value.int IntKind.i64 (Zm.A R K).1)).setCell ⟨b, o + T * 2 + 1, none⟩ (Value.int IntKind.u64 (Zm.A R K).2)).drew := ⟨_, rfl⟩
      rw [← hw2] at LS ⊢
      clear hw2 k0c k1c k0f k1f t0c t1c t0f t1f
      have LO2 := Lib.hid LS.out.1
      have ON2 := Lib.hid (ON.out.trans (LS.out.2.mono fun _ _ e => Or.inl e))
      have HNOTE := Lib.hid (note_any LO2.out (i := K) (by rw [swp_len]; exact S1.out.lt) (in_sl (HS.out _ (by rw [swp_at S1.out.lt hTR, if_neg (fun e => hTK e.symm), if_pos rfl]; exact S1.out.perm.mem_iff.1 (A_mem hTR)))) (by rw [swp_len, S1.out.len, ← HN.out]; omega) (by rw [S1.out.md.sz]; have := HKL.out; omega))
      unfold notePost at HNOTE
      clear LS LO PK PT
      go_wp2_with fail
      refine HNOTE.out.mono ?_
      rintro e w3 ⟨rfl, lo3, on3⟩
      have LO3 := Lib.hid lo3
      have ON3 := Lib.hid (ON2.out.trans (on3.mono fun _ _ e => Or.inl (Or.inl e)))
      clear lo3 on3 HNOTE
      go_wp2_with fail
      go_roundw
      case rel => exact ⟨T, rfl, _, _, _, Lib.hid (S1.out.next HP.out HD.out hTR hTK HOLE.out LO3.out ON3.out)⟩
      case measure =>
        have e1 := rdQ_eq LO3.out (n := n) (by rw [swp_len, S1.out.len, ← HN.out])
        have e2 := rdQ_eq S1.out.lo (n := n) (by rw [S1.out.len, ← HN.out])
        rw [e1, e2]
        exact HMU.out
    · rw [decide_eq_false hb] at HB1
      go_wp2_with fail
      refine HB1.out.mono ?_
      rintro e w1 ⟨rfl, hb1⟩
      have LO := Lib.hid (S1.out.lo.below hb1 (Nat.le_refl _))
      have ON := Lib.hid (S1.out.on.trans (Only.of_below hb1 (Nat.le_refl _) _))
      clear hb1 HB1 hq
      have HNB := Lib.hid hb
      clear hb hPn
      go_wp2_with fail
      go_loopw [8, 10] (fun t m wi => ∃ T M : Nat, t = .int .i64 (T : Int) ∧ m = .int .i64 (M : Int) ∧ Hid (Ch R K T M) ∧ Hid (Lo wi g (some ⟨b, o, none⟩) c B D1 R) ∧ Hid (Only (fun j => j = B ∨ j = b) w wi)) (fun _ m _ => 2 * K + 3 - (intOf m).toNat)
      case atStart => exact ⟨K, 2 * K + 1, rfl, by go_num, Lib.hid (Ch.start S1.out.lt), LO, ON⟩
      case round =>
        clear LO ON
        obtain ⟨T, M, rfl, rfl, CH, LO, ON⟩ := hrel
        have hge := CH.out.ge; have hle := CH.out.le
        by_cases hm : M ≤ 2 * K + 2
        · have hmI : (M : Int) ≤ 2 * (K : Int) + 2 := by omega
          by_cases hl : M < n
          · have hlI : (M : Int) < (n : Int) := by omega
            have HB2 := Lib.hid (before_any LO.out (i := M) (j := T) (by omega) CH.out.tl)
            by_cases hb : bf (Zm.A R M) (Zm.A R T)
            · rw [decide_eq_true hb] at HB2
              have CH2 := Lib.hid (CH.out.yes hm (by omega) hb)
              clear hb hRn
              go_wp2_with fail
              refine HB2.out.mono ?_
              rintro e w2 ⟨rfl, hb2⟩
              have LO2 := Lib.hid (LO.out.below hb2 (Nat.le_refl _))
              have ON2 := Lib.hid (ON.out.trans (Only.of_below hb2 (Nat.le_refl _) _))
              clear hb2 HB2
              go_wp2_with fail
              go_roundw
              case rel => exact ⟨M, M + 1, rfl, by go_num, CH2, LO2, ON2⟩
              case measure => simp [intOf]; omega
            · rw [decide_eq_false hb] at HB2
              have CH2 := Lib.hid (CH.out.no hm hb)
              clear hb hRn
              go_wp2_with fail
              refine HB2.out.mono ?_
              rintro e w2 ⟨rfl, hb2⟩
              have LO2 := Lib.hid (LO.out.below hb2 (Nat.le_refl _))
              have ON2 := Lib.hid (ON.out.trans (Only.of_below hb2 (Nat.le_refl _) _))
              clear hb2 HB2
              go_wp2_with fail
              go_roundw
              case rel => exact ⟨T, M + 1, rfl, by go_num, CH2, LO2, ON2⟩
              case measure => simp [intOf]; omega
          · have hlI : ¬ (M : Int) < (n : Int) := by omega
            have HX : Hid (¬ (M ≤ 2 * K + 2 ∧ M < R.length)) := fun e => hl (by rw [← hRn]; exact e.2)
            by_cases hTK : T = K
            · have HH := Lib.hid (CH.out.done S1.out HNB.out HX.out hTK)
              subst hTK
              have hTI : ((T : Int) == (T : Int)) = true := by simp
              have HNOTE := Lib.hid (note_any LO.out (i := T) S1.out.lt (in_sl (HS.out _ (S1.out.perm.mem_iff.1 (A_mem S1.out.lt)))) (by rw [S1.out.len, ← HN.out]; omega) (by rw [S1.out.md.sz]; have := HKL.out; omega))
              unfold notePost at HNOTE
              clear hRn
              go_wp2_with fail
              refine HNOTE.out.mono ?_
              rintro e w3 ⟨rfl, lo3, on3⟩
              have LO3 := Lib.hid lo3
              have ON3 := Lib.hid (ON.out.trans (on3.mono fun _ _ e => Or.inl (Or.inl e)))
              clear lo3 on3 HNOTE
              go_wp2_with fail
              go_end0
              exact S1.out.end_ HD.out HH.out LO3.out ON3.out
            · have hTn : T < n := by rw [← hRn]; exact CH.out.tl
              have HOLE := Lib.hid (CH.out.down S1.out HNB.out HX.out hTK).1
              have HMU := Lib.hid (CH.out.down S1.out HNB.out HX.out hTK).2
              have tI : (T : Int) < (n : Int) := by omega
              have hTI : ((T : Int) == (K : Int)) = false := by simp; omega
              have hTR : T < R.length := by omega
              have PK := Lib.hid (Lo_cells LO.out (i := K) (by omega))
              have PT := Lib.hid (Lo_cells LO.out (i := T) (by omega))
              have ltb := Lo_inb LO.out
              have LS := Lib.hid (swap_lo LO.out (K := K) (T := T) S1.out.lt hTR)
              unfold putW at LS
              obtain ⟨k0c, k1c, k0f, k1f⟩ := PK.out
              obtain ⟨t0c, t1c, t0f, t1f⟩ := PT.out
              clear hRn
              go_wp2_with fail
              go_region
              obtain ⟨w2, hw2⟩ : ∃ w2, w2 = ((((wr.setCell ⟨b, o + K * 2, none⟩ (Value.int IntKind.i64 (Zm.A R T).1)).setCell ⟨b, o + K * 2 + 1, none⟩ (Value.int IntKind.u64 (Zm.A R T).2)).setCell ⟨b, o + T * 2, none⟩ (Value.int IntKind.i64 (Zm.A R K).1)).setCell ⟨b, o + T * 2 + 1, none⟩ (Value.int IntKind.u64 (Zm.A R K).2)).drew := ⟨_, rfl⟩
              rw [← hw2] at LS ⊢
              clear hw2 k0c k1c k0f k1f t0c t1c t0f t1f
              have LO2 := Lib.hid LS.out.1
              have ON2 := Lib.hid (ON.out.trans (LS.out.2.mono fun _ _ e => Or.inl e))
              have HNOTE := Lib.hid (note_any LO2.out (i := K) (by rw [swp_len]; exact S1.out.lt) (in_sl (HS.out _ (by rw [swp_at S1.out.lt hTR, if_neg (fun e => hTK e.symm), if_pos rfl]; exact S1.out.perm.mem_iff.1 (A_mem hTR)))) (by rw [swp_len, S1.out.len, ← HN.out]; omega) (by rw [S1.out.md.sz]; have := HKL.out; omega))
              unfold notePost at HNOTE
              clear LS LO PK PT
              go_wp2_with fail
              refine HNOTE.out.mono ?_
              rintro e w3 ⟨rfl, lo3, on3⟩
              have LO3 := Lib.hid lo3
              have ON3 := Lib.hid (ON2.out.trans (on3.mono fun _ _ e => Or.inl (Or.inl e)))
              clear lo3 on3 HNOTE
              go_wp2_with fail
              go_roundw
              case rel => exact ⟨T, rfl, _, _, _, Lib.hid (S1.out.next HP.out HD.out hTR hTK HOLE.out LO3.out ON3.out)⟩
              case measure =>
                have e1 := rdQ_eq LO3.out (n := n) (by rw [swp_len, S1.out.len, ← HN.out])
                have e2 := rdQ_eq S1.out.lo (n := n) (by rw [S1.out.len, ← HN.out])
                rw [e1, e2]
                exact HMU.out
        · have hmI : ¬ (M : Int) ≤ 2 * (K : Int) + 2 := by omega
          have HX : Hid (¬ (M ≤ 2 * K + 2 ∧ M < R.length)) := fun e => hm e.1
          by_cases hTK : T = K
          · have HH := Lib.hid (CH.out.done S1.out HNB.out HX.out hTK)
            subst hTK
            have hTI : ((T : Int) == (T : Int)) = true := by simp
            have HNOTE := Lib.hid (note_any LO.out (i := T) S1.out.lt (in_sl (HS.out _ (S1.out.perm.mem_iff.1 (A_mem S1.out.lt)))) (by rw [S1.out.len, ← HN.out]; omega) (by rw [S1.out.md.sz]; have := HKL.out; omega))
            unfold notePost at HNOTE
            clear hRn
            go_wp2_with fail
            refine HNOTE.out.mono ?_
            rintro e w3 ⟨rfl, lo3, on3⟩
            have LO3 := Lib.hid lo3
            have ON3 := Lib.hid (ON.out.trans (on3.mono fun _ _ e => Or.inl (Or.inl e)))
            clear lo3 on3 HNOTE
            go_wp2_with fail
            go_end0
            exact S1.out.end_ HD.out HH.out LO3.out ON3.out
          · have hTn : T < n := by rw [← hRn]; exact CH.out.tl
            have HOLE := Lib.hid (CH.out.down S1.out HNB.out HX.out hTK).1
            have HMU := Lib.hid (CH.out.down S1.out HNB.out HX.out hTK).2
            have tI : (T : Int) < (n : Int) := by omega
            have hTI : ((T : Int) == (K : Int)) = false := by simp; omega
            have hTR : T < R.length := by omega
            have PK := Lib.hid (Lo_cells LO.out (i := K) (by omega))
            have PT := Lib.hid (Lo_cells LO.out (i := T) (by omega))
            have ltb := Lo_inb LO.out
            have LS := Lib.hid (swap_lo LO.out (K := K) (T := T) S1.out.lt hTR)
            unfold putW at LS
            obtain ⟨k0c, k1c, k0f, k1f⟩ := PK.out
            obtain ⟨t0c, t1c, t0f, t1f⟩ := PT.out
            clear hRn
            go_wp2_with fail
            go_region
            obtain ⟨w2, hw2⟩ : ∃ w2, w2 = ((((wr.setCell ⟨b, o + K * 2, none⟩ (Value.int IntKind.i64 (Zm.A R T).1)).setCell ⟨b, o + K * 2 + 1, none⟩ (Value.int IntKind.u64 (Zm.A R T).2)).setCell ⟨b, o + T * 2, none⟩ (Value.int IntKind.i64 (Zm.A R K).1)).setCell ⟨b, o + T * 2 + 1, none⟩ (Value.int IntKind.u64 (Zm.A R K).2)).drew := ⟨_, rfl⟩
            rw [← hw2] at LS ⊢
            clear hw2 k0c k1c k0f k1f t0c t1c t0f t1f
            have LO2 := Lib.hid LS.out.1
            have ON2 := Lib.hid (ON.out.trans (LS.out.2.mono fun _ _ e => Or.inl e))
            have HNOTE := Lib.hid (note_any LO2.out (i := K) (by rw [swp_len]; exact S1.out.lt) (in_sl (HS.out _ (by rw [swp_at S1.out.lt hTR, if_neg (fun e => hTK e.symm), if_pos rfl]; exact S1.out.perm.mem_iff.1 (A_mem hTR)))) (by rw [swp_len, S1.out.len, ← HN.out]; omega) (by rw [S1.out.md.sz]; have := HKL.out; omega))
            unfold notePost at HNOTE
            clear LS LO PK PT
            go_wp2_with fail
            refine HNOTE.out.mono ?_
            rintro e w3 ⟨rfl, lo3, on3⟩
            have LO3 := Lib.hid lo3
            have ON3 := Lib.hid (ON2.out.trans (on3.mono fun _ _ e => Or.inl (Or.inl e)))
            clear lo3 on3 HNOTE
            go_wp2_with fail
            go_roundw
            case rel => exact ⟨T, rfl, _, _, _, Lib.hid (S1.out.next HP.out HD.out hTR hTK HOLE.out LO3.out ON3.out)⟩
            case measure =>
              have e1 := rdQ_eq LO3.out (n := n) (by rw [swp_len, S1.out.len, ← HN.out])
              have e2 := rdQ_eq S1.out.lo (n := n) (by rw [S1.out.len, ← HN.out])
              rw [e1, e2]
              exact HMU.out
end Go.Proofs.Ytpalbccoiejmoaa.Zs
