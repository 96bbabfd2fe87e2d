/- Proves what the methods chain, grow and take of a table leave in memory. Conditions: as each theorem names them. -/
import Derived.Test.YtmhbfplpodikiaaIne
namespace Go.Proofs.Ytmhbfplpodikiaa.Inf
open Go.RowKit Ap Mi Nw Rg Aa Ai Hm Ina Inb Inc Ind Ine

section
variable {F F' : Nat → Prop} {p : Nat → Nat} {w w' : World} {g : Nat} {m sd : Int} {H S R : Option Addr} {ch cs cf : Nat} {hd nx : List Int} {l : List Nr} {fr : List Nat}
theorem lo_draws (h : Lo F p w g m sd H ch hd S cs l nx R cf fr) (hq : ∃ q, w' = w.drewN q) : Lo F p w' g m sd H ch hd S cs l nx R cf fr := by
  obtain ⟨q, rfl⟩ := hq
  exact h.drewN q
theorem only_draws {w w' : World} (F : Nat → Prop) (hq : ∃ q, w' = w.drewN q) : Only F w w' := by
  obtain ⟨q, rfl⟩ := hq
  exact (Only.refl F w).drewN q
set_option maxRecDepth 100000 in
set_option maxHeartbeats 1000000 in
theorem chain_any (h : Lo F p w g m sd H ch hd S cs l nx R cf fr) (hsd : U64 sd) (hp : isPow (hd.length : Int) = true) {n : Nat} (hn : n < l.length) (hk : (nk l n).size ≤ 1000000) :
    Calls Try.prog 49 #[.pointer (some ⟨g, 0, none⟩), .int .i64 (n : Int)] w fun e w' => e = .returned (.tuple #[]) ∧
      Lo F p w' g m sd H ch (hd.set (bkt sd hd.length (nk l n)) (n : Int)) S cs l (nx.set n (hd.getD (bkt sd hd.length (nk l n)) 0)) R cf fr ∧ Only (fun j => F j ∧ (p j = 1 ∨ p j = 2)) w w' := by
  have HH := Lib.hid h
  have HD := Lib.hid (head_any h hsd hp (nk l n) hk)
  have hb := (bkt_lt sd hp (nk l n)).1
  obtain ⟨b, hbe⟩ : ∃ b, b = bkt sd hd.length (nk l n) := ⟨_, rfl⟩
  rw [← hbe] at hb HD ⊢
  obtain ⟨c0, c1, c2, c3, c4⟩ := Blk.five h.blk
  obtain ⟨sb, so, hS, hsl, hsF, hsp, e0, e1, e2, f0, f1, f2⟩ := h.slot hn
  obtain ⟨a1, a2, a3, a4, a5⟩ := h.place (q := .hd b) hb
  have HS := Lib.hid hS
  have HB := Lib.hid hb
  have i1 : (n : Int) < (l.length : Int) := by omega
  obtain ⟨x, hx⟩ : ∃ x, x = hd.getD b 0 := ⟨_, rfl⟩
  have a1' : w.cell? (adr H S (.hd b)) = some (.int .i64 x) := by rw [hx]; exact a1
  obtain ⟨a, ha⟩ : ∃ a, a = adr H S (.hd b) := ⟨_, rfl⟩
  rw [← ha] at a1' a2 a3 a4 a5 HD
  rw [← hx]
  rw [hS] at c3
  have HA := Lib.hid ha; have HXX := Lib.hid hx
  have lg := h.lt
  clear a1 ha hS h hbe hx hb hp hsd e1 e2 c0 c1 c2 c4
  go_enter Try.func49, Try.ntmps49
  go_wp2_with fail
  refine HD.out.mono ?_
  rintro e w1 ⟨rfl, hq⟩
  have HL1 := Lib.hid (lo_draws HH.out hq)
  have HO1 := Lib.hid (only_draws (fun j => F j ∧ (p j = 1 ∨ p j = 2)) hq)
  have b1 : w1.drew.cell? ⟨g, 3, none⟩ = some (.slice (some ⟨sb, so, none⟩) l.length cs) := by obtain ⟨q, rfl⟩ := hq; exact c3
  have b2 : w1.drew.cell? a = some (.int .i64 x) := by obtain ⟨q, rfl⟩ := hq; exact a1'
  have b3 : w1.drew.cell? ⟨sb, so + n * 3 + 2, none⟩ = some (.int .i64 (nx.getD n 0)) := by obtain ⟨q, rfl⟩ := hq; exact (by obtain ⟨sb', so', e, _, _, _, _, _, h2, _⟩ := HH.out.slot hn; rw [HS.out] at e; injection e with e; injection e with e1 e2; subst e1; subst e2; exact h2)
  have b4 : w1.drew.frozen? ⟨sb, so + n * 3 + 2, none⟩ = false := by obtain ⟨q, rfl⟩ := hq; exact f2
  have HL2 := Lib.hid (HL1.out.drew)
  have HO2 := Lib.hid (HO1.out.drew)
  clear hq HD HL1 HO1
  go_wp2_with fail
  refine wp_region_noPanic ?_
  refine wp_region_G 10 (fun v => v.cell? ⟨g, 3, none⟩ = some (.slice (some ⟨sb, so, none⟩) l.length cs) ∧ v.cell? a = some (.int .i64 x)) (by kernel_rfl) ?_
  generalize w1.drew = u1 at HL2 HO2 b1 b2 b3 b4 ⊢
  refine wpAnyG_take (i := 0) (oi := ⟨some 15, _, _, _, _, _⟩) (v := ?_) rfl (by kernel_rfl) (by kernel_rfl) (by kernel_rfl) (by kernel_rfl) (by kernel_rfl) (fun _ _ _ h => h) (Or.inl ⟨by rfl, ?_⟩) (⟨b1, b2⟩) ?_
  rotate_left
  · intro w hSw; go_simp; first | done | with_reducible rfl
  try simp only [Act.put, List.setIfInBounds_toArray, List.set_cons_zero, List.set_cons_succ]
  refine wpAnyG_take (i := 1) (oi := ⟨some 16, _, _, _, _, _⟩) (v := ?_) rfl (by kernel_rfl) (by kernel_rfl) (by kernel_rfl) (by kernel_rfl) (by kernel_rfl) (fun _ _ _ h => h) (Or.inl ⟨by rfl, ?_⟩) (⟨b1, b2⟩) ?_
  rotate_left
  · intro w hSw; go_simp; first | done | with_reducible rfl
  try simp only [Act.put, List.setIfInBounds_toArray, List.set_cons_zero, List.set_cons_succ]
  refine wpAnyG_take (i := 2) (oi := ⟨some 17, _, _, _, _, _⟩) (v := ?_) rfl (by kernel_rfl) (by kernel_rfl) (by kernel_rfl) (by kernel_rfl) (by kernel_rfl) (fun _ _ _ h => h) (Or.inl ⟨by rfl, ?_⟩) (⟨b1, b2⟩) ?_
  rotate_left
  · intro w hSw; go_simp; first | done | with_reducible rfl
  try simp only [Act.put, List.setIfInBounds_toArray, List.set_cons_zero, List.set_cons_succ]
  refine wpAnyG_take (i := 3) (oi := ⟨some 18, _, _, _, _, _⟩) (v := ?_) rfl (by kernel_rfl) (by kernel_rfl) (by kernel_rfl) (by kernel_rfl) (by kernel_rfl) (fun _ _ _ h => h) (Or.inl ⟨by rfl, ?_⟩) (⟨b1, b2⟩) ?_
  rotate_left
  · intro w hSw; go_simp; first | done | with_reducible rfl
  try simp only [Act.put, List.setIfInBounds_toArray, List.set_cons_zero, List.set_cons_succ]
  refine wpAnyG_take (i := 4) (oi := ⟨some 19, _, _, _, _, _⟩) (v := ?_) rfl (by kernel_rfl) (by kernel_rfl) (by kernel_rfl) (by kernel_rfl) (by kernel_rfl) (fun _ _ _ h => h) (Or.inl ⟨by rfl, ?_⟩) (⟨b1, b2⟩) ?_
  rotate_left
  · intro w hSw; go_simp; first | done | with_reducible rfl
  try simp only [Act.put, List.setIfInBounds_toArray, List.set_cons_zero, List.set_cons_succ]
  refine wpAnyG_take (i := 5) (oi := ⟨some 20, _, _, _, _, _⟩) (v := ?_) rfl (by kernel_rfl) (by kernel_rfl) (by kernel_rfl) (by kernel_rfl) (by kernel_rfl) (fun _ _ _ h => h) (Or.inl ⟨by rfl, ?_⟩) (⟨b1, b2⟩) ?_
  rotate_left
  · intro w hSw; go_simp; first | done | with_reducible rfl
  try simp only [Act.put, List.setIfInBounds_toArray, List.set_cons_zero, List.set_cons_succ]
  refine wpAnyG_take (i := 6) (oi := ⟨some 21, _, _, _, _, _⟩) (v := ?_) rfl (by kernel_rfl) (by kernel_rfl) (by kernel_rfl) (by kernel_rfl) (by kernel_rfl) (fun _ _ _ h => h) (Or.inl ⟨by rfl, ?_⟩) (⟨b1, b2⟩) ?_
  rotate_left
  · intro w hSw; go_simp; first | done | with_reducible rfl
  try simp only [Act.put, List.setIfInBounds_toArray, List.set_cons_zero, List.set_cons_succ]
  refine wpAnyG_take (i := 7) (oi := ⟨some 22, _, _, _, _, _⟩) (v := ?_) rfl (by kernel_rfl) (by kernel_rfl) (by kernel_rfl) (by kernel_rfl) (by kernel_rfl) (fun _ _ _ h => h) (Or.inl ⟨by rfl, ?_⟩) (⟨b1, b2⟩) ?_
  rotate_left
  · intro w hSw; go_simp; first | done | with_reducible rfl
  try simp only [Act.put, List.setIfInBounds_toArray, List.set_cons_zero, List.set_cons_succ]
  refine wpAnyG_take (i := 8) (oi := ⟨some 23, _, _, _, _, _⟩) (v := ?_) rfl (by kernel_rfl) (by kernel_rfl) (by kernel_rfl) (by kernel_rfl) (by kernel_rfl) (fun _ _ _ h => h) (Or.inl ⟨by rfl, ?_⟩) (⟨b1, b2⟩) ?_
  rotate_left
  · intro w hSw; go_simp; first | done | with_reducible rfl
  try simp only [Act.put, List.setIfInBounds_toArray, List.set_cons_zero, List.set_cons_succ]
  refine wpAnyG_take (i := 9) (oi := ⟨some 24, _, _, _, _, _⟩) (v := ?_) rfl (by kernel_rfl) (by kernel_rfl) (by kernel_rfl) (by kernel_rfl) (by kernel_rfl) (fun _ _ _ h => h) (Or.inl ⟨by rfl, ?_⟩) (⟨b1, b2⟩) ?_
  rotate_left
  · intro w hSw; go_simp; first | done | with_reducible rfl
  try simp only [Act.put, List.setIfInBounds_toArray, List.set_cons_zero, List.set_cons_succ]
  refine wpAnyG_ready (rs := [10]) (by kernel_rfl) (by simp) ?_
  refine AllReadyG.cons (o := ⟨none, _, _, _, _, _⟩) rfl (fun K hK => ?_) AllReadyG.nil
  go_simp
  refine hK.out _ _ (fun h => absurd h (by omega)) ?_
  clear hK K
  try simp only [Act.put, List.setIfInBounds_toArray, List.set_cons_zero, List.set_cons_succ]
  refine wpAnyG_done (by kernel_rfl) ?_ _
  refine NoPanic.normal ?_
  have HL3 : Hid (Lo F p (u1.setCell ⟨sb, so + n * 3 + 2, none⟩ (.int .i64 x)) g m sd H ch hd S cs l (nx.set n x) R cf fr) := by
    have h := HL2.out.put (q := .nx n) (show n < nx.length by have := HL2.out.nl; omega) x
    rw [HS.out] at h ⊢; exact h
  have HO3 : Hid (Only (fun j => F j ∧ (p j = 1 ∨ p j = 2)) w (u1.setCell ⟨sb, so + n * 3 + 2, none⟩ (.int .i64 x))) := HO2.out.put (ad := ⟨sb, so + n * 3 + 2, none⟩) ⟨hsF, Or.inr hsp⟩ _
  obtain ⟨u2, hu2⟩ : ∃ u2, u2 = u1.setCell ⟨sb, so + n * 3 + 2, none⟩ (.int .i64 x) := ⟨_, rfl⟩
  rw [← hu2] at HL3 HO3 ⊢
  clear hu2 b1 b2 b3 b4 HL2 HO2
  obtain ⟨d1, d2, d3, _⟩ := HL3.out.place (q := .hd b) HB.out
  rw [← HA.out] at d1 d2 d3
  go_wp2_with fail
  go_end0
  refine ⟨rfl, ?_, HO3.out.put (ad := a) ⟨a4, a5⟩ _⟩
  have h := HL3.out.put (q := .hd b) HB.out (n : Int)
  rw [← HA.out] at h
  exact h
/-- What grow leaves. -/
def growPost (F : Nat → Prop) (w : World) (g : Nat) (m sd : Int) (N : Nat) (S : Option Addr) (cs : Nat) (l : List Nr) (R : Option Addr) (cf : Nat) (fr : List Nat) : Ending → World → Prop := fun e w' => e = .returned (.tuple #[]) ∧ ∃ p' H' ch' hd' nx', Lo (More F w) p' w' g m sd H' ch' hd' S cs l nx' R cf fr ∧ hd'.length = 2 * N ∧ Chs ⟨hd', nx'⟩ (fun i => bkt sd (2 * N) (nk l i)) (fun i => i < l.length) ∧ Only F w w'
/-- New heads. -/
theorem Lo_heads (h : Lo F p w g m sd H ch hd S cs l nx R cf fr) (hb : Below w.heap.size w w') {H' : Option Addr} {n ch' : Nat} {hd' : List Int} (hm : Mine w.heap.size 1 w' H' n ch' (zs hd')) (hn : hd'.length = n) :
    Lo (More F w) (fun j => if j < w.heap.size then p j else 1) (w'.setCell ⟨g, 2, none⟩ (.slice H' n ch')) g m sd H' ch' hd' S cs l nx R cf fr ∧ Only F w (w'.setCell ⟨g, 2, none⟩ (.slice H' n ch')) := by
  have hl := h.lt
  have ho : Only (fun j => j = g) w' (w'.setCell ⟨g, 2, none⟩ (.slice H' n ch')) := only_own (F := fun j => j = g) rfl _
  have hg2 := h.blk.below hb hl
  have hue : ∀ {c : Nat} {A : Option Addr}, Hue F p c A → (∀ a, A = some a → a.block < w.heap.size) → Hue (More F w) (fun j => if j < w.heap.size then p j else 1) c A := fun {c A} hu hlt a e => by
    have h1 := hu a e; have h2 := hlt a e
    exact ⟨Or.inl h1.1, by show (if _ then _ else _) = _; rw [if_pos h2]; exact h1.2⟩
  have ns : ∀ {c : Nat} {A : Option Addr}, Hue F p c A → 0 ≠ c → ∀ a, A = some a → a.block ≠ g := fun {c A} hu hc a e q => by have h1 := (hu a e).2; rw [q, h.pg] at h1; exact hc h1
  refine ⟨⟨?_, Or.inl h.fg, by show (if _ then _ else _) = _; rw [if_pos hl]; exact h.pg, ?_, (h.sm.below hb (Nat.le_refl _)).only ho (fun a e => ns h.sp (by omega) a e), (h.rm.below hb (Nat.le_refl _)).only ho (fun a e => ns h.rp (by omega) a e), fun a e => ?_, hue h.sp (fun a e => (h.sm.base e).2.1), hue h.rp (fun a e => (h.rm.base e).2.1), h.nl⟩, ((Only.of_below hb (Nat.le_refl _) F).put (ad := ⟨g, 2, none⟩) h.fg _)⟩
  · rw [hn]; exact hg2.set 2 _
  · rw [hn]; exact (hm.mono (Nat.zero_le _)).only ho (fun a e q => by have := (hm.base e).1; omega)
  · have h1 := (hm.base e).1
    exact ⟨Or.inr h1, by show (if _ then _ else _) = _; rw [if_neg (by omega)]⟩
set_option maxRecDepth 100000 in
set_option maxHeartbeats 1000000 in
theorem grow_any (h : Lo F p w g m sd H ch hd S cs l nx R cf fr) (hsd : U64 sd) (hp : isPow (hd.length : Int) = true) (hN : hd.length ≤ 32768) (hl : l.length ≤ 1000000) (hk : ∀ i, i < l.length → (nk l i).size ≤ 1000000) :
    Calls Try.prog 50 #[.pointer (some ⟨g, 0, none⟩)] w (growPost F w g m sd hd.length S cs l R cf fr) := by
  have hpos : 1 ≤ hd.length := by have := (isPow_bd _ hp).1; omega
  have HH := Lib.hid h
  obtain ⟨N, hNe⟩ : ∃ N, N = hd.length := ⟨_, rfl⟩
  have HP : Hid (isPow ((2 * N : Nat) : Int) = true) := by show _ = _; rw [hNe]; exact isPow_dbl hp (by omega)
  have HE := Lib.hid (empty_any (2 * N) (by omega) (by omega) w)
  obtain ⟨c0, c1, c2, c3, c4⟩ := Blk.five h.blk
  have f2 := h.blk.frozen 2
  rw [← hNe] at c2 hN hpos ⊢
  have hwr : IntKind.i64.wrap (2 * (N : Int)) = 2 * (N : Int) := by rw [IntKind.wrap_i64]; omega
  have ec : ((2 * N : Nat) : Int) = 2 * (N : Int) := by omega
  rw [ec] at HE
  have lg := h.lt
  have HK := Lib.hid hk; have HSD := Lib.hid hsd
  clear h hNe hp hk hsd c0 c1 c4
  unfold growPost
  go_enter Try.func50, Try.ntmps50
  go_wp2_with fail
  refine HE.out.mono ?_
  rintro e w1 ⟨H1, ch1, rfl, hm1, hb1⟩
  have d2 : w1.cell? ⟨g, 2, none⟩ = some (.slice H N ch) := by rw [hb1.cell lg]; exact c2
  have e2 : w1.frozen? ⟨g, 2, none⟩ = false := by rw [hb1.frozen lg]; exact f2
  have d3 : w1.cell? ⟨g, 3, none⟩ = some (.slice S l.length cs) := by rw [hb1.cell lg]; exact c3
  obtain ⟨hl2, ho2⟩ := Lo_heads HH.out hb1 hm1 (by simp)
  have HL2 := Lib.hid hl2; have HO2 := Lib.hid ho2
  obtain ⟨p2, hp2⟩ : ∃ p2, p2 = fun j => if j < w.heap.size then p j else 1 := ⟨_, rfl⟩
  rw [← hp2] at HL2
  clear hm1 hb1 hl2 ho2 HE hp2 c2 c3 f2 ec
  go_wp2_with fail
  have HF : Hid (Chs ⟨List.replicate (2 * N) (-1), nx⟩ (fun i => bkt sd (2 * N) (nk l i)) (fun i => i < 0)) := by
    refine (Chs.empty _ (fun b hb => ?_)).iff (fun i => ⟨fun q => q.elim, fun q => absurd q (Nat.not_lt_zero i)⟩)
    have hb' : b < 2 * N := by simpa using hb
    show (List.replicate (2 * N) (-1 : Int)).getD b 0 = -1
    rw [List.getD_eq_getElem?_getD, List.getElem?_replicate, if_pos hb']; rfl
  go_loopw [18] (fun i wr => ∃ k hdk nxk, k ≤ l.length ∧ i = .int .i64 ((k : Nat) : Int) ∧ Hid (Lo (More F w) p2 wr g m sd H1 ch1 hdk S cs l nxk R cf fr) ∧ Hid (hdk.length = 2 * N) ∧ Hid (Chs ⟨hdk, nxk⟩ (fun i => bkt sd (2 * N) (nk l i)) (fun i => i < k)) ∧ Hid (Only F w wr)) (fun i _ => l.length - (intOf i).toNat)
  case atStart => exact ⟨0, _, _, Nat.zero_le _, rfl, HL2, by show _ = _; simp, HF, HO2⟩
  case round =>
    obtain ⟨k, hdk, nxk, hk, rfl, hL, hlen, hC, hO⟩ := hrel
    by_cases hlt : k < l.length
    · have i3 : (k : Int) < (l.length : Int) := by omega
      have HCH := Lib.hid (chain_any hL.out HSD.out (by rw [hlen.out]; exact HP.out) hlt (HK.out k hlt))
      go_wp2_with fail
      refine HCH.out.mono ?_
      rintro e w3 ⟨rfl, hl3, ho3⟩
      have HL3 := Lib.hid hl3
      have HC3 : Hid (Chs ⟨hdk.set (bkt sd hdk.length (nk l k)) (k : Int), nxk.set k (hdk.getD (bkt sd hdk.length (nk l k)) 0)⟩ (fun i => bkt sd (2 * N) (nk l i)) (fun i => i < k + 1)) := by
        rw [hlen.out]
        refine (hC.out.push (n := k) (by show k < nxk.length; rw [hL.out.nl]; exact hlt) (by show bkt sd (2 * N) (nk l k) < hdk.length; rw [hlen.out]; exact (bkt_lt sd HP.out _).1) (by omega)).iff (fun i => ?_)
        constructor
        · rintro (q | q) <;> omega
        · intro q; have : i < k ∨ i = k := by omega
          exact this
      have HO3 : Hid (Only F w w3) := hO.out.trans (ho3.mono (fun j _ hf => hf.1))
      clear hl3 ho3 HCH
      go_wp2_with fail
      go_roundw
      case rel => exact ⟨k + 1, _, _, hlt, by go_num, HL3, by show _ = _; rw [List.length_set]; exact hlen.out, HC3, HO3⟩
      case measure => simp [intOf]; omega
    · obtain rfl : k = l.length := by omega
      have hnn : ¬ (l.length : Int) < l.length := by omega
      clear hlt
      go_wp2_with fail
      go_end0
      exact ⟨rfl, p2, H1, ch1, hdk, nxk, hL.out, hlen.out, hC.out, hO.out⟩
end
end Go.Proofs.Ytmhbfplpodikiaa.Inf
