/- Proves that AccountPlays returns true at every argument. Conditions: as the row gives them. -/
import Derived.Test.YtocfinhbocjbgaaJg
import Derived.Test.YtocfinhbocjbgaaJl
import Derived.Deep.CutBlock
import Derived.Deep.RegionHeld3
namespace Go.Proofs.Ytocfinhbocjbgaa.Jm
open Go.RowKit Ap Mi Nw Ja Jb Jc Je Jf Jg
open Jl (Cal acL acL_get acL_len)

/-- Blocks that may be the account's own. -/
def Fr (N r M : Nat) : Nat → Prop := fun j => N ≤ j ∧ j ≠ r ∧ j ≠ M ∧ j ≠ M + 1
/-- Between two rounds: the account in block g, the specification's in block r. -/
structure Ro (N r : Nat) (W w : World) (g : Nat) (s : Ac) : Prop where
  t : Ah (fun j => N ≤ j ∧ j ≠ r) w g s
  p : Blk w r (cells s) 35
  b : Below N W w
  lo : N ≤ r
/-- In a round: the call in block M, the specification's new account in the block behind it. -/
structure Bo (N r M : Nat) (W w : World) (x : Cal) (g : Nat) (s p q : Ac) : Prop where
  t : Ah (Fr N r M) w g s
  p : Blk w r (cells p) 35
  y : Blk w M #[.int .i64 x.1, .int .i64 x.2.1, .int .i64 x.2.2] 39
  q : Blk w (M + 1) (cells q) 35
  b : Below N W w
  lo : N ≤ r
  hr : r < M
section
variable {N r M g : Nat} {W w w' : World} {x : Cal} {s s' p q v : Ac} {e : Int}
theorem Bo.z (h : Bo N r M W w x g s p q) : M + 2 ≤ w.heap.size := h.q.lt
theorem Bo.below (h : Bo N r M W w x g s p q) (hb : Below w.heap.size w w') : Bo N r M W w' x g s p q :=
  ⟨h.t.below hb (Nat.le_refl _), h.p.below hb h.p.lt, h.y.below hb h.y.lt, h.q.below hb h.q.lt, h.b.trans (hb.mono (by have := h.z; have := h.lo; have := h.hr; omega)), h.lo, h.hr⟩
theorem Bo.wr (h : Bo N r M W w x g s p q) {u : Value} {d : Ending} (hp : wrPost (Fr N r M) w g s' u d w') : d = .returned u ∧ Bo N r M W w' x g s' p q := by
  have hz := h.z; have hlo := h.lo; have hr := h.hr
  obtain ⟨h1, h2, h3⟩ := hp
  refine ⟨h1, h2.mono (fun j _ hf => ?_), h.p.only h3 (fun hf => hf.2.1 rfl), h.y.only h3 (fun hf => hf.2.2.1 rfl), h.q.only h3 (fun hf => hf.2.2.2 rfl), h.b.trans (h3.below (fun _ hf => hf.1) (by omega)), h.lo, h.hr⟩
  rcases hf with hf | hf
  · exact hf
  · exact ⟨by omega, by omega, by omega, by omega⟩
theorem Bo.setq (h : Bo N r M W w x g s p q) (v : Ac) : Bo N r M W (put4 w (M + 1) (.int .i64 v.b) (.int .i64 v.e) (.int .i64 v.x) (.int .i64 v.n)) x g s p v := by
  have hz := h.z; have hlo := h.lo; have hr := h.hr
  have ho := put4_only w (M + 1) (.int .i64 v.b) (.int .i64 v.e) (.int .i64 v.x) (.int .i64 v.n)
  exact ⟨h.t.only ho (fun j hf e => hf.2.2.2 e), h.p.only ho (by omega), h.y.only ho (by omega), put4_blk h.q _ _ _ _, h.b.trans (ho.below (fun j e => by omega) (by omega)), h.lo, h.hr⟩
theorem Bo.setp (h : Bo N r M W w x g s p q) (v : Ac) : Bo N r M W (put4 w r (.int .i64 v.b) (.int .i64 v.e) (.int .i64 v.x) (.int .i64 v.n)) x g s v q := by
  have hz := h.z; have hlo := h.lo; have hr := h.hr
  have ho := put4_only w r (.int .i64 v.b) (.int .i64 v.e) (.int .i64 v.x) (.int .i64 v.n)
  exact ⟨h.t.only ho (fun j hf e => hf.2.1 e), put4_blk h.p _ _ _ _, h.y.only ho (by omega), h.q.only ho (by omega), h.b.trans (ho.below (fun j e => by omega) (by omega)), h.lo, h.hr⟩
theorem Bo.done (h : Bo N r M W w x g s s q) : Ro N r W w g s := ⟨h.t.mono (fun _ _ hf => ⟨hf.1, hf.2.1⟩), h.p, h.b, h.lo⟩
theorem Bo.begin (h : Ro N r W w g s) : Bo N r w.heap.size W ((w.alloc (.cells #[.int .i64 x.1, .int .i64 x.2.1, .int .i64 x.2.2] 39)).alloc (.cells (cells s) 35)) x g s s s := by
  have hr := h.p.lt; have hlo := h.lo; have hg := h.t.lt
  have hb : Below w.heap.size w ((w.alloc (.cells #[.int .i64 x.1, .int .i64 x.2.1, .int .i64 x.2.2] 39)).alloc (.cells (cells s) 35)) := (bnew w _).alloc (by simp) _
  refine ⟨(h.t.tight.below hb (Nat.le_refl _)).mono (fun j _ hf => ⟨hf.1.1, hf.1.2, by have := hf.2; omega, by have := hf.2; omega⟩), h.p.below hb hr, ?_, ?_, h.b.trans (hb.mono (by omega)), hlo, hr⟩
  · exact (Blk.new w _ _).below (bnew (w.alloc _) _) (by simp)
  · have := Blk.new (w.alloc (.cells #[.int .i64 x.1, .int .i64 x.2.1, .int .i64 x.2.2] 39)) (cells s) 35
    simpa using this
theorem Bo.add (h : Bo N r M W w x g s p q) (c : Int) (he : addN s c = e) (hl : addT s c = s') :
    Calls Try.prog 14 #[.pointer (some ⟨g, 0, none⟩), .int .i64 c] w fun d w2 => d = .returned (.int .i64 e) ∧ Bo N r M W w2 x g s' p q := by
  subst he; subst hl; exact (Je.add_any h.t c).mono fun _ _ hp => h.wr hp
theorem Bo.rem (h : Bo N r M W w x g s p q) (c : Int) (he : remN s c = e) (hl : remT s c = s') :
    Calls Try.prog 16 #[.pointer (some ⟨g, 0, none⟩), .int .i64 c] w fun d w2 => d = .returned (.int .i64 e) ∧ Bo N r M W w2 x g s' p q := by
  subst he; subst hl; exact (Je.rem_any h.t c).mono fun _ _ hp => h.wr hp
theorem Bo.chg (h : Bo N r M W w x g s p q) (c d : Int) (he : chgN s c d = e) (hl : chgT s c d = s') :
    Calls Try.prog 18 #[.pointer (some ⟨g, 0, none⟩), .int .i64 c, .int .i64 d] w fun d w2 => d = .returned (.int .i64 e) ∧ Bo N r M W w2 x g s' p q := by
  subst he; subst hl; exact (Je.chg_any h.t c d).mono fun _ _ hp => h.wr hp
theorem Bo.used (h : Bo N r M W w x g s p q) {y n : Int} (hx : s.x = y) (hn : s.n = n) :
    Calls Try.prog 23 #[.pointer (some ⟨g, 0, none⟩), .int .i64 y, .int .i64 n] w fun d w2 => d = .returned (.bool true) ∧ Bo N r M W w2 x g s p q :=
  (used_is h.t hx hn).mono fun _ _ ⟨h1, h2⟩ => ⟨h1, h.below h2⟩
theorem Bo.over (h : Bo N r M W w x g s p q) {y n : Int} (hx : ovB s = y) (hn : ovE s = n) :
    Calls Try.prog 24 #[.pointer (some ⟨g, 0, none⟩), .int .i64 y, .int .i64 n] w fun d w2 => d = .returned (.bool true) ∧ Bo N r M W w2 x g s p q :=
  (over_is h.t hx hn).mono fun _ _ ⟨h1, h2⟩ => ⟨h1, h.below h2⟩
theorem Bo.budget (h : Bo N r M W w x g s p q) {y n : Int} (hx : s.b = y) (hn : s.e = n) :
    Calls Try.prog 25 #[.pointer (some ⟨g, 0, none⟩), .int .i64 y, .int .i64 n] w fun d w2 => d = .returned (.bool true) ∧ Bo N r M W w2 x g s p q :=
  (budget_is h.t hx hn).mono fun _ _ ⟨h1, h2⟩ => ⟨h1, h.below h2⟩
/-- The specification's functions beside. -/
theorem Bo.sadd (h : Bo N r M W w x g s p q) (hok : Ok v) (c : Int) {u : Ac} (he : addN v c = e) (hl : addT v c = u) :
    Calls Try.prog 13 #[.agg #[.int .i64 v.b, .int .i64 v.e, .int .i64 v.x, .int .i64 v.n], .int .i64 c] w fun d w2 => d = .returned (.tuple #[.agg #[.int .i64 u.b, .int .i64 u.e, .int .i64 u.x, .int .i64 u.n], .int .i64 e]) ∧ Bo N r M W w2 x g s p q := by
  subst he; subst hl; exact (Jb.add_any hok c w).mono fun _ _ hp => ⟨hp.1, h.below hp.2⟩
theorem Bo.srem (h : Bo N r M W w x g s p q) (hok : Ok v) (c : Int) {u : Ac} (he : remN v c = e) (hl : remT v c = u) :
    Calls Try.prog 15 #[.agg #[.int .i64 v.b, .int .i64 v.e, .int .i64 v.x, .int .i64 v.n], .int .i64 c] w fun d w2 => d = .returned (.tuple #[.agg #[.int .i64 u.b, .int .i64 u.e, .int .i64 u.x, .int .i64 u.n], .int .i64 e]) ∧ Bo N r M W w2 x g s p q := by
  subst he; subst hl; exact (Jb.rem_any hok c w).mono fun _ _ hp => ⟨hp.1, h.below hp.2⟩
theorem Bo.schg (h : Bo N r M W w x g s p q) (hok : Ok v) (c d : Int) {u : Ac} (he : chgN v c d = e) (hl : chgT v c d = u) :
    Calls Try.prog 17 #[.agg #[.int .i64 v.b, .int .i64 v.e, .int .i64 v.x, .int .i64 v.n], .int .i64 c, .int .i64 d] w fun d w2 => d = .returned (.tuple #[.agg #[.int .i64 u.b, .int .i64 u.e, .int .i64 u.x, .int .i64 u.n], .int .i64 e]) ∧ Bo N r M W w2 x g s p q := by
  subst he; subst hl; exact (Jb.chg_any hok c d w).mono fun _ _ hp => ⟨hp.1, h.below hp.2⟩
theorem Bo.sover (h : Bo N r M W w x g s p q) (hok : Ok v) {y n : Int} (hx : ovB v = y) (hn : ovE v = n) :
    Calls Try.prog 22 #[.agg #[.int .i64 v.b, .int .i64 v.e, .int .i64 v.x, .int .i64 v.n]] w fun d w2 => d = .returned (.tuple #[.int .i64 y, .int .i64 n]) ∧ Bo N r M W w2 x g s p q := by
  subst hx; subst hn; exact (Jb.over_any hok w).mono fun _ _ hp => ⟨hp.1, h.below hp.2⟩
theorem Bo.sfits (h : Bo N r M W w x g s p q) (hok : Ok v) (c : Int) {y : Bool} (hy : fitB v c = y) :
    Calls Try.prog 20 #[.agg #[.int .i64 v.b, .int .i64 v.e, .int .i64 v.x, .int .i64 v.n], .int .i64 c] w fun d w2 => d = .returned (.bool y) ∧ Bo N r M W w2 x g s p q := by
  subst hy; exact (Jb.fits_any hok c w).mono fun _ _ hp => ⟨hp.1, h.below hp.2⟩
theorem Bo.fits (h : Bo N r M W w x g s p q) (c : Int) {y : Bool} (hy : fitB s c = y) :
    Calls Try.prog 19 #[.pointer (some ⟨g, 0, none⟩), .int .i64 c] w fun d w2 => d = .returned (.bool y) ∧ Bo N r M W w2 x g s p q := by
  subst hy; exact (Je.fits_any h.t c).mono fun _ _ hp => ⟨hp.1, h.below hp.2⟩
/-- Beside the account its elder, from which it was copied. -/
structure Tw (N r M : Nat) (W w : World) (x : Cal) (g g' : Nat) (F G : Nat → Prop) (s so p q : Ac) : Prop where
  o : Ah F w g so
  n : Ah G w g' s
  fg : ∀ j, F j → ¬ G j
  fF : ∀ j, F j → Fr N r M j
  fG : ∀ j, G j → Fr N r M j
  bo : Bo N r M W w x g' s p q
theorem Bo.copy (h : Bo N r M W w x g s p q) :
    Calls Try.prog 21 #[.pointer (some ⟨g, 0, none⟩)] w fun d w2 => ∃ g' F G, d = .returned (.pointer (some ⟨g', 0, none⟩)) ∧ Tw N r M W w2 x g g' F G s s p q := by
  refine (Je.copy_any h.t).mono ?_
  rintro d w2 ⟨g', h1, h2, h3⟩
  have hz := h.z; have hlo := h.lo; have hr := h.hr
  have hb := h.below h3
  have hf : ∀ j, w.heap.size ≤ j → Fr N r M j := fun j hj => ⟨by omega, by omega, by omega, by omega⟩
  exact ⟨g', _, _, h1, h.t.tight.below h3 (Nat.le_refl _), h2, fun j h4 h5 => by have := h4.2; omega, fun j h4 => h4.1, hf, h2.mono (fun j _ hj => hf j hj), hb.p, hb.y, hb.q, hb.b, hb.lo, hb.hr⟩
theorem Tw.wr {g' : Nat} {F G : Nat → Prop} {so so' : Ac} (h : Tw N r M W w x g g' F G s so p q) {u : Value} {d : Ending} (hp : wrPost F w g so' u d w') : d = .returned u ∧ ∃ F' G', Tw N r M W w' x g g' F' G' s so' p q := by
  have hz := h.bo.z; have hlo := h.bo.lo; have hr := h.bo.hr
  obtain ⟨h1, h2, h3⟩ := hp
  have hn := h.n.tight.only h3 (fun j hf e => h.fg j e hf.1)
  refine ⟨h1, _, _, h2, hn, fun j h4 h5 => ?_, fun j h4 => ?_, fun j h4 => h.fG j h4.1, hn.mono (fun j _ hj => h.fG j hj.1), h.bo.p.only h3 (fun hf => (h.fF _ hf).2.1 rfl), h.bo.y.only h3 (fun hf => (h.fF _ hf).2.2.1 rfl), h.bo.q.only h3 (fun hf => (h.fF _ hf).2.2.2 rfl), h.bo.b.trans (h3.below (fun j hf => (h.fF j hf).1) (by omega)), h.bo.lo, h.bo.hr⟩
  · rcases h4 with h4 | h4
    · exact h.fg j h4 h5.1
    · have := h5.2; omega
  · rcases h4 with h4 | h4
    · exact h.fF j h4
    · exact ⟨by omega, by omega, by omega, by omega⟩
theorem Tw.add {g' : Nat} {F G : Nat → Prop} {so : Ac} (h : Tw N r M W w x g g' F G s so p q) (c : Int) :
    Calls Try.prog 14 #[.pointer (some ⟨g, 0, none⟩), .int .i64 c] w fun d w2 => d = .returned (.int .i64 (addN so c)) ∧ ∃ F' G', Tw N r M W w2 x g g' F' G' s (addT so c) p q :=
  (Je.add_any h.o c).mono fun _ _ hp => h.wr hp
theorem Tw.rem {g' : Nat} {F G : Nat → Prop} {so : Ac} (h : Tw N r M W w x g g' F G s so p q) (c : Int) :
    Calls Try.prog 16 #[.pointer (some ⟨g, 0, none⟩), .int .i64 c] w fun d w2 => d = .returned (.int .i64 (remN so c)) ∧ ∃ F' G', Tw N r M W w2 x g g' F' G' s (remT so c) p q :=
  (Je.rem_any h.o c).mono fun _ _ hp => h.wr hp
theorem addT_be (s : Ac) (c : Int) : (addT s c).b = s.b ∧ (addT s c).e = s.e := by unfold addT; split <;> exact ⟨rfl, rfl⟩
theorem remT_be (s : Ac) (c : Int) : (remT s c).b = s.b ∧ (remT s c).e = s.e := by unfold remT; split <;> exact ⟨rfl, rfl⟩
theorem chgT_be (s : Ac) (c d : Int) : (chgT s c d).b = s.b ∧ (chgT s c d).e = s.e := by unfold chgT; split <;> exact ⟨rfl, rfl⟩
end
set_option maxRecDepth 100000 in
set_option maxHeartbeats 8000000 in
theorem plays_walk (by_ en : Int) (D : Option Addr) (q0 : Nat) (l : List Cal) (W : World) (ha : Rs W 3 D l.length q0 (acL l)) :
    Calls Try.prog 4 #[.int .i64 by_, .int .i64 en, .slice D l.length q0] W (boolTo true W) := by
  have HKN : Hid (∀ w1, Calls Try.prog 8 #[] w1 (boolTo true w1)) := fun w1 => known_any w1
  have HD := Lib.hid ha
  have hdl := ha.le
  have hdm := ha.max
  unfold maxLen at hdm
  clear ha
  obtain ⟨N, hN⟩ : ∃ N, N = W.heap.size := ⟨_, rfl⟩
  have HN := Lib.hid hN
  unfold boolTo at HKN ⊢
  rw [← hN]
  clear hN
  by_cases h100 : 100 < l.length
  · have i1 : (100 : Int) < (l.length : Int) := by omega
    go_enter Try.func4, Try.ntmps4
    go_wp2_with fail
    refine (HKN.out W).mono ?_
    rintro e w1 ⟨rfl, hb⟩
    have HB := Lib.hid hb
    clear hb
    go_wp2_with fail
    go_ret
    exact ⟨rfl, by rw [HN.out]; exact HB.out⟩
  have i1 : (l.length : Int) ≤ 100 := by omega
  have hl100 : l.length ≤ 100 := by omega
  clear h100
  by_cases hbud : bud by_ en
  case neg =>
    have HNO := Lib.hid (new_no hbud W)
    have HSN : Hid (∀ w, Calls Try.prog 12 #[.int .i64 by_, .int .i64 en] w fun d w2 => d = .returned (.tuple #[.agg #[.int .i64 0, .int .i64 0, .int .i64 0, .int .i64 0], .int .i64 2]) ∧ Below w.heap.size w w2) := fun w => by
      have := Jb.new_any by_ en w
      rw [if_neg hbud, if_neg hbud] at this
      exact this
    unfold vPost at HNO
    clear hbud
    go_enter Try.func4, Try.ntmps4
    go_wp2_with fail
    refine HNO.out.mono ?_
    rintro e w1 ⟨rfl, hb⟩
    have HB1 := Lib.hid hb
    clear hb HNO
    go_wp2_with fail
    refine (HSN.out w1).mono ?_
    rintro e w2 ⟨rfl, hb⟩
    have HB2 := Lib.hid (HB1.out.trans (hb.mono HB1.out.size))
    clear hb HSN
    obtain ⟨w3, hw3⟩ : ∃ w3, w3 = w2.alloc (.cells #[.int .i64 0, .int .i64 0, .int .i64 0, .int .i64 0] 35) := ⟨_, rfl⟩
    have HB3 : Hid (Below W.heap.size W w3) := by show Below _ _ _; rw [hw3]; exact HB2.out.trans ((bnew w2 _).mono HB2.out.size)
    go_wp2_with fail
    rw [← hw3]
    clear hw3
    refine (HKN.out w3).mono ?_
    rintro e w4 ⟨rfl, hb⟩
    have HB4 := Lib.hid (HB3.out.trans (hb.mono HB3.out.size))
    clear hb
    go_wp2_with fail
    go_ret
    exact ⟨rfl, by rw [HN.out]; exact HB4.out⟩
  have HNY := Lib.hid (new_yes hbud W)
  have HSN : Hid (∀ w, Calls Try.prog 12 #[.int .i64 by_, .int .i64 en] w fun d w2 => d = .returned (.tuple #[.agg #[.int .i64 by_, .int .i64 en, .int .i64 0, .int .i64 0], .int .i64 0]) ∧ Below w.heap.size w w2) := fun w => by
    have := Jb.new_any by_ en w
    rw [if_pos hbud, if_pos hbud] at this
    exact this
  unfold newPost at HNY
  clear hbud
  go_enter Try.func4, Try.ntmps4
  go_wp2_with fail
  refine HNY.out.mono ?_
  rintro e w1 ⟨g, rfl, ha, hb⟩
  have HA1 := Lib.hid ha; have HB1 := Lib.hid hb
  clear ha hb HNY
  go_wp2_with fail
  refine (HSN.out w1).mono ?_
  rintro e w2 ⟨rfl, hb⟩
  obtain ⟨r, hr⟩ : ∃ r, r = w2.heap.size := ⟨_, rfl⟩
  obtain ⟨w3, hw3⟩ : ∃ w3, w3 = w2.alloc (.cells #[.int .i64 by_, .int .i64 en, .int .i64 0, .int .i64 0] 35) := ⟨_, rfl⟩
  have RO3 : Hid (Ro N r W w3 g ⟨by_, en, 0, 0⟩) := by
    have b3 : Below w2.heap.size w2 w3 := by rw [hw3]; exact bnew _ _
    have h2 : W.heap.size ≤ w1.heap.size := HB1.out.size
    have h3 : w1.heap.size ≤ w2.heap.size := hb.size
    have b13 : Below w1.heap.size w1 w3 := hb.trans (b3.mono h3)
    refine ⟨(HA1.out.tight.below b13 (Nat.le_refl _)).mono (fun j _ hf => ⟨by rw [HN.out]; exact hf.1, by have := hf.2; omega⟩), ?_, ?_, by rw [HN.out]; omega⟩
    · rw [hw3, hr]; exact Blk.new _ _ _
    · rw [HN.out]; exact HB1.out.trans (b13.mono h2)
  clear hb HSN HA1 HB1
  go_wp2_with fail
  rw [← hw3, ← hr]
  clear hw3 hr
  go_loopw [7, 50] (fun av i wr => ∃ (k g : Nat) (s : Ac), k ≤ l.length ∧ av = .pointer (some ⟨g, 0, none⟩) ∧ i = .int .i64 (k : Int) ∧ s.b = by_ ∧ s.e = en ∧ Ro N r W wr g s) (fun _ i _ => l.length - (intOf i).toNat)
  case atStart => exact ⟨0, g, ⟨by_, en, 0, 0⟩, Nat.zero_le _, rfl, rfl, rfl, rfl, RO3.out⟩
  case round =>
    obtain ⟨k, g, s, hk, rfl, rfl, hsb, hse, hro⟩ := hrel
    have RO := Lib.hid hro
    have SB := Lib.hid hsb; have SE := Lib.hid hse
    have hNr := hro.lo; have hrw := hro.p.lt
    clear hro hsb hse
    by_cases hlt : k < l.length
    · have j1 : (k : Int) < (l.length : Int) := by omega
      obtain ⟨f0, f1, f2⟩ := acL_get l k hlt
      have RD := HD.out.rd.below RO.out.b (by have := HN.out; omega)
      obtain ⟨tb, to_, rfl, ltb, a0⟩ := RD.at_ f0
      obtain ⟨tb', to', e1, _, a1⟩ := RD.at_ f1
      injection e1 with e1; injection e1 with e11 e12; subst e11; subst e12
      obtain ⟨tb', to', e1, _, a2⟩ := RD.at_ f2
      injection e1 with e1; injection e1 with e11 e12; subst e11; subst e12
      rw [← Nat.add_assoc] at a1 a2
      obtain ⟨⟨xa, xb, xc⟩, hx⟩ : ∃ x, x = l[k] := ⟨_, rfl⟩
      rw [← hx] at a0 a1 a2
      simp only at a0 a1 a2
      obtain ⟨s0, s1, s2, s3, _⟩ := RO.out.p.four
      obtain ⟨v0, hv0⟩ : ∃ v0, v0 = (wr.alloc (.cells #[.int .i64 xa, .int .i64 xb, .int .i64 xc] 39)).alloc (.cells #[.int .i64 s.b, .int .i64 s.e, .int .i64 s.x, .int .i64 s.n] 35) := ⟨_, rfl⟩
      have B0 : Hid (Bo N r wr.heap.size W v0 (xa, xb, xc) g s s s) := by show Bo _ _ _ _ _ _ _ _ _ _; rw [hv0]; exact Bo.begin (x := (xa, xb, xc)) RO.out
      obtain ⟨M, hM⟩ : ∃ M, M = wr.heap.size := ⟨_, rfl⟩
      rw [← hM] at B0
      clear f0 f1 f2 RD hx
      go_upto_region 13 with (fail)
      rw [← hv0, ← hM]
      clear hv0 hM a0 a1 a2 s0 s1 s2 s3 hrw
      have HOK : Hid (Ok s) := B0.out.t.ok
      have SBE : Hid (s.b = by_ ∧ s.e = en) := ⟨SB.out, SE.out⟩
      clear SB SE
      by_cases h0 : xa = 0
      · subst h0
        obtain ⟨sn, hsn⟩ : ∃ z, z = addT s xb := ⟨_, rfl⟩
        obtain ⟨no, hno⟩ : ∃ z, z = addN s xb := ⟨_, rfl⟩
        have OKn : Hid (Ok sn) := by show Ok _; rw [hsn]; exact HOK.out.add xb
        have SBn : Hid (sn.b = by_ ∧ sn.e = en) := by show _ ∧ _; rw [hsn, (addT_be s xb).1, (addT_be s xb).2]; exact SBE.out
        have HSN := Lib.hid hsn.symm; have HNO := Lib.hid hno.symm
        clear hsn hno SBE
        have Y : Blk v0 M #[.int .i64 0, .int .i64 xb, .int .i64 xc] 39 := B0.out.y
        obtain ⟨y0, y1, y2, _⟩ := Y.three
        clear Y
        obtain ⟨p0, p1, p2, p3, pf0, pf1, pf2, pf3⟩ := B0.out.p.four
        go_wp2_with fail
        refine (B0.out.sadd HOK.out xb HNO.out HSN.out).mono ?_
        rintro d v1 ⟨rfl, hk⟩
        have B1 := Lib.hid hk
        clear hk B0 y0 y1 y2 p0 p1 p2 p3 pf0 pf1 pf2 pf3
        have Y : Blk v1 M #[.int .i64 0, .int .i64 xb, .int .i64 xc] 39 := B1.out.y
        obtain ⟨y0, y1, y2, _⟩ := Y.three
        clear Y
        obtain ⟨q0_, q1_, q2_, q3_, qf0, qf1, qf2, qf3⟩ := B1.out.q.four
        go_upto_region 22 with (fail)
        obtain ⟨v2, hv2⟩ : ∃ v2, v2 = put4 v1 (M + 1) (.int .i64 sn.b) (.int .i64 sn.e) (.int .i64 sn.x) (.int .i64 sn.n) := ⟨_, rfl⟩
        have B2 : Hid (Bo N r M W v2 (0, xb, xc) g s s sn) := by show Bo _ _ _ _ _ _ _ _ _ _; rw [hv2]; exact B1.out.setq sn
        unfold put4 at hv2
        rw [← hv2]
        clear hv2 B1 y0 y1 y2 q0_ q1_ q2_ q3_ qf0 qf1 qf2 qf3
        have Y : Blk v2 M #[.int .i64 0, .int .i64 xb, .int .i64 xc] 39 := B2.out.y
        obtain ⟨y0, y1, y2, _⟩ := Y.three
        clear Y
        go_wp2_with fail
        refine (B2.out.add xb HNO.out HSN.out).mono ?_
        rintro d v3 ⟨rfl, hk⟩
        have B3 := Lib.hid hk
        clear hk B2 y0 y1 y2
        obtain ⟨q0_, q1_, q2_, q3_, qf0, qf1, qf2, qf3⟩ := B3.out.q.four
        obtain ⟨p0, p1, p2, p3, pf0, pf1, pf2, pf3⟩ := B3.out.p.four
        go_upto_region 33 with (fail)
        obtain ⟨v4, hv4⟩ : ∃ v4, v4 = put4 v3 r (.int .i64 sn.b) (.int .i64 sn.e) (.int .i64 sn.x) (.int .i64 sn.n) := ⟨_, rfl⟩
        have B4 : Hid (Bo N r M W v4 (0, xb, xc) g sn sn sn) := by show Bo _ _ _ _ _ _ _ _ _ _; rw [hv4]; exact B3.out.setp sn
        unfold put4 at hv4
        rw [← hv4]
        clear hv4 q0_ q1_ q2_ q3_ qf0 qf1 qf2 qf3 p0 p1 p2 p3 pf0 pf1 pf2 pf3 B3
        obtain ⟨p0, p1, p2, p3, pf0, pf1, pf2, pf3⟩ := B4.out.p.four
        obtain ⟨ob, hob⟩ : ∃ z, z = ovB sn := ⟨_, rfl⟩
        obtain ⟨on_, hon⟩ : ∃ z, z = ovE sn := ⟨_, rfl⟩
        have HOB := Lib.hid hob.symm; have HON := Lib.hid hon.symm
        clear hob hon
        go_wp2_with fail
        refine (B4.out.sover OKn.out HOB.out HON.out).mono ?_
        rintro d v5 ⟨rfl, hk⟩
        have B5 := Lib.hid hk
        clear hk B4 p0 p1 p2 p3 pf0 pf1 pf2 pf3
        obtain ⟨p0, p1, p2, p3, pf0, pf1, pf2, pf3⟩ := B5.out.p.four
        have hnn0 : (no == no) = true := by simp
        go_wp2_with fail
        refine (B5.out.used rfl rfl).mono ?_
        rintro d v6 ⟨rfl, hk⟩
        have B6 := Lib.hid hk
        clear hk B5 p0 p1 p2 p3 pf0 pf1 pf2 pf3
        go_wp2_with fail
        refine (B6.out.over HOB.out HON.out).mono ?_
        rintro d v7 ⟨rfl, hk⟩
        have B7 := Lib.hid hk
        clear hk B6
        go_wp2_with fail
        refine (B7.out.budget SBn.out.1 SBn.out.2).mono ?_
        rintro d v8 ⟨rfl, hk⟩
        have B8 := Lib.hid hk
        clear hk B7
        go_wp2_with fail
        go_roundw
        case rel => exact ⟨k + 1, _, sn, by omega, rfl, by go_num, SBn.out.1, SBn.out.2, B8.out.done⟩
        case measure => simp [intOf]; omega
      by_cases h1 : xa = 1
      · subst h1
        obtain ⟨sn, hsn⟩ : ∃ z, z = remT s xb := ⟨_, rfl⟩
        obtain ⟨no, hno⟩ : ∃ z, z = remN s xb := ⟨_, rfl⟩
        have OKn : Hid (Ok sn) := by show Ok _; rw [hsn]; exact HOK.out.rem xb
        have SBn : Hid (sn.b = by_ ∧ sn.e = en) := by show _ ∧ _; rw [hsn, (remT_be s xb).1, (remT_be s xb).2]; exact SBE.out
        have HSN := Lib.hid hsn.symm; have HNO := Lib.hid hno.symm
        clear hsn hno SBE
        have Y : Blk v0 M #[.int .i64 1, .int .i64 xb, .int .i64 xc] 39 := B0.out.y
        obtain ⟨y0, y1, y2, _⟩ := Y.three
        clear Y
        obtain ⟨p0, p1, p2, p3, pf0, pf1, pf2, pf3⟩ := B0.out.p.four
        go_wp2_with fail
        refine (B0.out.srem HOK.out xb HNO.out HSN.out).mono ?_
        rintro d v1 ⟨rfl, hk⟩
        have B1 := Lib.hid hk
        clear hk B0 y0 y1 y2 p0 p1 p2 p3 pf0 pf1 pf2 pf3
        have Y : Blk v1 M #[.int .i64 1, .int .i64 xb, .int .i64 xc] 39 := B1.out.y
        obtain ⟨y0, y1, y2, _⟩ := Y.three
        clear Y
        obtain ⟨q0_, q1_, q2_, q3_, qf0, qf1, qf2, qf3⟩ := B1.out.q.four
        go_upto_region 25 with (fail)
        obtain ⟨v2, hv2⟩ : ∃ v2, v2 = put4 v1 (M + 1) (.int .i64 sn.b) (.int .i64 sn.e) (.int .i64 sn.x) (.int .i64 sn.n) := ⟨_, rfl⟩
        have B2 : Hid (Bo N r M W v2 (1, xb, xc) g s s sn) := by show Bo _ _ _ _ _ _ _ _ _ _; rw [hv2]; exact B1.out.setq sn
        unfold put4 at hv2
        rw [← hv2]
        clear hv2 B1 y0 y1 y2 q0_ q1_ q2_ q3_ qf0 qf1 qf2 qf3
        have Y : Blk v2 M #[.int .i64 1, .int .i64 xb, .int .i64 xc] 39 := B2.out.y
        obtain ⟨y0, y1, y2, _⟩ := Y.three
        clear Y
        go_wp2_with fail
        refine (B2.out.rem xb HNO.out HSN.out).mono ?_
        rintro d v3 ⟨rfl, hk⟩
        have B3 := Lib.hid hk
        clear hk B2 y0 y1 y2
        obtain ⟨q0_, q1_, q2_, q3_, qf0, qf1, qf2, qf3⟩ := B3.out.q.four
        obtain ⟨p0, p1, p2, p3, pf0, pf1, pf2, pf3⟩ := B3.out.p.four
        go_upto_region 33 with (fail)
        obtain ⟨v4, hv4⟩ : ∃ v4, v4 = put4 v3 r (.int .i64 sn.b) (.int .i64 sn.e) (.int .i64 sn.x) (.int .i64 sn.n) := ⟨_, rfl⟩
        have B4 : Hid (Bo N r M W v4 (1, xb, xc) g sn sn sn) := by show Bo _ _ _ _ _ _ _ _ _ _; rw [hv4]; exact B3.out.setp sn
        unfold put4 at hv4
        rw [← hv4]
        clear hv4 q0_ q1_ q2_ q3_ qf0 qf1 qf2 qf3 p0 p1 p2 p3 pf0 pf1 pf2 pf3 B3
        obtain ⟨p0, p1, p2, p3, pf0, pf1, pf2, pf3⟩ := B4.out.p.four
        obtain ⟨ob, hob⟩ : ∃ z, z = ovB sn := ⟨_, rfl⟩
        obtain ⟨on_, hon⟩ : ∃ z, z = ovE sn := ⟨_, rfl⟩
        have HOB := Lib.hid hob.symm; have HON := Lib.hid hon.symm
        clear hob hon
        go_wp2_with fail
        refine (B4.out.sover OKn.out HOB.out HON.out).mono ?_
        rintro d v5 ⟨rfl, hk⟩
        have B5 := Lib.hid hk
        clear hk B4 p0 p1 p2 p3 pf0 pf1 pf2 pf3
        obtain ⟨p0, p1, p2, p3, pf0, pf1, pf2, pf3⟩ := B5.out.p.four
        have hnn0 : (no == no) = true := by simp
        go_wp2_with fail
        refine (B5.out.used rfl rfl).mono ?_
        rintro d v6 ⟨rfl, hk⟩
        have B6 := Lib.hid hk
        clear hk B5 p0 p1 p2 p3 pf0 pf1 pf2 pf3
        go_wp2_with fail
        refine (B6.out.over HOB.out HON.out).mono ?_
        rintro d v7 ⟨rfl, hk⟩
        have B7 := Lib.hid hk
        clear hk B6
        go_wp2_with fail
        refine (B7.out.budget SBn.out.1 SBn.out.2).mono ?_
        rintro d v8 ⟨rfl, hk⟩
        have B8 := Lib.hid hk
        clear hk B7
        go_wp2_with fail
        go_roundw
        case rel => exact ⟨k + 1, _, sn, by omega, rfl, by go_num, SBn.out.1, SBn.out.2, B8.out.done⟩
        case measure => simp [intOf]; omega
      by_cases h2 : xa = 2
      · subst h2
        obtain ⟨sn, hsn⟩ : ∃ z, z = chgT s xb xc := ⟨_, rfl⟩
        obtain ⟨no, hno⟩ : ∃ z, z = chgN s xb xc := ⟨_, rfl⟩
        have OKn : Hid (Ok sn) := by show Ok _; rw [hsn]; exact HOK.out.chg xb xc
        have SBn : Hid (sn.b = by_ ∧ sn.e = en) := by show _ ∧ _; rw [hsn, (chgT_be s xb xc).1, (chgT_be s xb xc).2]; exact SBE.out
        have HSN := Lib.hid hsn.symm; have HNO := Lib.hid hno.symm
        clear hsn hno SBE
        have Y : Blk v0 M #[.int .i64 2, .int .i64 xb, .int .i64 xc] 39 := B0.out.y
        obtain ⟨y0, y1, y2, _⟩ := Y.three
        clear Y
        obtain ⟨p0, p1, p2, p3, pf0, pf1, pf2, pf3⟩ := B0.out.p.four
        go_wp2_with fail
        refine (B0.out.schg HOK.out xb xc HNO.out HSN.out).mono ?_
        rintro d v1 ⟨rfl, hk⟩
        have B1 := Lib.hid hk
        clear hk B0 y0 y1 y2 p0 p1 p2 p3 pf0 pf1 pf2 pf3
        have Y : Blk v1 M #[.int .i64 2, .int .i64 xb, .int .i64 xc] 39 := B1.out.y
        obtain ⟨y0, y1, y2, _⟩ := Y.three
        clear Y
        obtain ⟨q0_, q1_, q2_, q3_, qf0, qf1, qf2, qf3⟩ := B1.out.q.four
        go_upto_region 28 with (fail)
        obtain ⟨v2, hv2⟩ : ∃ v2, v2 = put4 v1 (M + 1) (.int .i64 sn.b) (.int .i64 sn.e) (.int .i64 sn.x) (.int .i64 sn.n) := ⟨_, rfl⟩
        have B2 : Hid (Bo N r M W v2 (2, xb, xc) g s s sn) := by show Bo _ _ _ _ _ _ _ _ _ _; rw [hv2]; exact B1.out.setq sn
        unfold put4 at hv2
        rw [← hv2]
        clear hv2 B1 y0 y1 y2 q0_ q1_ q2_ q3_ qf0 qf1 qf2 qf3
        have Y : Blk v2 M #[.int .i64 2, .int .i64 xb, .int .i64 xc] 39 := B2.out.y
        obtain ⟨y0, y1, y2, _⟩ := Y.three
        clear Y
        go_wp2_with fail
        refine (B2.out.chg xb xc HNO.out HSN.out).mono ?_
        rintro d v3 ⟨rfl, hk⟩
        have B3 := Lib.hid hk
        clear hk B2 y0 y1 y2
        obtain ⟨q0_, q1_, q2_, q3_, qf0, qf1, qf2, qf3⟩ := B3.out.q.four
        obtain ⟨p0, p1, p2, p3, pf0, pf1, pf2, pf3⟩ := B3.out.p.four
        go_upto_region 33 with (fail)
        obtain ⟨v4, hv4⟩ : ∃ v4, v4 = put4 v3 r (.int .i64 sn.b) (.int .i64 sn.e) (.int .i64 sn.x) (.int .i64 sn.n) := ⟨_, rfl⟩
        have B4 : Hid (Bo N r M W v4 (2, xb, xc) g sn sn sn) := by show Bo _ _ _ _ _ _ _ _ _ _; rw [hv4]; exact B3.out.setp sn
        unfold put4 at hv4
        rw [← hv4]
        clear hv4 q0_ q1_ q2_ q3_ qf0 qf1 qf2 qf3 p0 p1 p2 p3 pf0 pf1 pf2 pf3 B3
        obtain ⟨p0, p1, p2, p3, pf0, pf1, pf2, pf3⟩ := B4.out.p.four
        obtain ⟨ob, hob⟩ : ∃ z, z = ovB sn := ⟨_, rfl⟩
        obtain ⟨on_, hon⟩ : ∃ z, z = ovE sn := ⟨_, rfl⟩
        have HOB := Lib.hid hob.symm; have HON := Lib.hid hon.symm
        clear hob hon
        go_wp2_with fail
        refine (B4.out.sover OKn.out HOB.out HON.out).mono ?_
        rintro d v5 ⟨rfl, hk⟩
        have B5 := Lib.hid hk
        clear hk B4 p0 p1 p2 p3 pf0 pf1 pf2 pf3
        obtain ⟨p0, p1, p2, p3, pf0, pf1, pf2, pf3⟩ := B5.out.p.four
        have hnn0 : (no == no) = true := by simp
        go_wp2_with fail
        refine (B5.out.used rfl rfl).mono ?_
        rintro d v6 ⟨rfl, hk⟩
        have B6 := Lib.hid hk
        clear hk B5 p0 p1 p2 p3 pf0 pf1 pf2 pf3
        go_wp2_with fail
        refine (B6.out.over HOB.out HON.out).mono ?_
        rintro d v7 ⟨rfl, hk⟩
        have B7 := Lib.hid hk
        clear hk B6
        go_wp2_with fail
        refine (B7.out.budget SBn.out.1 SBn.out.2).mono ?_
        rintro d v8 ⟨rfl, hk⟩
        have B8 := Lib.hid hk
        clear hk B7
        go_wp2_with fail
        go_roundw
        case rel => exact ⟨k + 1, _, sn, by omega, rfl, by go_num, SBn.out.1, SBn.out.2, B8.out.done⟩
        case measure => simp [intOf]; omega
      by_cases h3 : xa = 3
      · subst h3
        obtain ⟨ft, hft⟩ : ∃ z, z = fitB s xb := ⟨_, rfl⟩
        have HFT := Lib.hid hft.symm
        clear hft
        have Y : Blk v0 M #[.int .i64 3, .int .i64 xb, .int .i64 xc] 39 := B0.out.y
        obtain ⟨y0, y1, y2, _⟩ := Y.three
        clear Y
        obtain ⟨p0, p1, p2, p3, pf0, pf1, pf2, pf3⟩ := B0.out.p.four
        have hbb : (ft == ft) = true := by simp
        have D1 : Below v0.heap.size v0 v0.drew := (Below.refl _ _).drew
        have HF1 : Hid (∀ v, Below v0.heap.size v0 v → Calls Try.prog 19 #[.pointer (some ⟨g, 0, none⟩), .int .i64 xb] v fun d u => d = .returned (.bool ft) ∧ Below v0.heap.size v0 u) := fun v hv => (Je.fits_any (B0.out.below hv).t xb).mono fun _ _ hp => ⟨by rw [hp.1, HFT.out], bstep hv hp.2⟩
        have HF2 : Hid (∀ v, Below v0.heap.size v0 v → Calls Try.prog 20 #[.agg #[.int .i64 s.b, .int .i64 s.e, .int .i64 s.x, .int .i64 s.n], .int .i64 xb] v fun d u => d = .returned (.bool ft) ∧ Below v0.heap.size v0 u) := fun v hv => (Jb.fits_any HOK.out xb v).mono fun _ _ hp => ⟨by rw [hp.1, HFT.out], bstep hv hp.2⟩
        have t1 : ∀ v, Below v0.heap.size v0 v → v.cell? ⟨M, 1, none⟩ = some (.int .i64 xb) := fun v hv => (B0.out.below hv).y.cell 1
        have t2 : ∀ v, Below v0.heap.size v0 v → v.cell? ⟨r, 0, none⟩ = some (.int .i64 s.b) := fun v hv => (B0.out.below hv).p.cell 0
        have t3 : ∀ v, Below v0.heap.size v0 v → v.cell? ⟨r, 1, none⟩ = some (.int .i64 s.e) := fun v hv => (B0.out.below hv).p.cell 1
        have t4 : ∀ v, Below v0.heap.size v0 v → v.cell? ⟨r, 2, none⟩ = some (.int .i64 s.x) := fun v hv => (B0.out.below hv).p.cell 2
        have t5 : ∀ v, Below v0.heap.size v0 v → v.cell? ⟨r, 3, none⟩ = some (.int .i64 s.n) := fun v hv => (B0.out.below hv).p.cell 3
        go_upto_region 30 with (fail)
        refine wp_region_noPanic ?_
        refine wp_region_held_drew (S := fun v => Below v0.heap.size v0 v) (by kernel_rfl) (D1) (fun hHeld => ?_)
        refine wpAnyH_take (i := 0) (oi := ⟨some 113, _, _, _, _, _⟩) (v := ?_) rfl (by kernel_rfl) (by kernel_rfl) (by kernel_rfl) (fun _ _ _ h => h) (Or.inl ⟨by rfl, ?_⟩) (by assumption) ?_
        rotate_left
        · intro w hSw; go_simp; first | done | with_reducible rfl
        try simp only [Act.put, List.setIfInBounds_toArray, List.set_cons_zero, List.set_cons_succ]
        refine wpAnyH_take (i := 1) (oi := ⟨some 114, _, _, _, _, _⟩) (v := ?_) rfl (by kernel_rfl) (by kernel_rfl) (by kernel_rfl) (fun _ _ _ h => h) (Or.inl ⟨by rfl, ?_⟩) (by assumption) ?_
        rotate_left
        · intro w hSw; go_simp; first | done | with_reducible rfl
        try simp only [Act.put, List.setIfInBounds_toArray, List.set_cons_zero, List.set_cons_succ]
        refine wpAnyH_take (i := 2) (oi := ⟨some 115, _, _, _, _, _⟩) (v := ?_) rfl (by kernel_rfl) (by kernel_rfl) (by kernel_rfl) (fun _ _ _ h => h) (Or.inl ⟨by rfl, ?_⟩) (by assumption) ?_
        rotate_left
        · intro w hSw; go_simp; first | done | with_reducible rfl
        try simp only [Act.put, List.setIfInBounds_toArray, List.set_cons_zero, List.set_cons_succ]
        refine wpAnyH_take (i := 4) (oi := ⟨some 117, _, _, _, _, _⟩) (v := ?_) rfl (by kernel_rfl) (by kernel_rfl) (by kernel_rfl) (fun _ _ _ h => h) (Or.inl ⟨by rfl, ?_⟩) (by assumption) ?_
        rotate_left
        · intro w hSw; go_simp; first | done | with_reducible rfl
        try simp only [Act.put, List.setIfInBounds_toArray, List.set_cons_zero, List.set_cons_succ]
        refine wpAnyH_take (i := 5) (oi := ⟨some 118, _, _, _, _, _⟩) (v := ?_) rfl (by kernel_rfl) (by kernel_rfl) (by kernel_rfl) (fun _ _ _ h => h) (Or.inl ⟨by rfl, ?_⟩) (by assumption) ?_
        rotate_left
        · intro w hSw; go_simp; first | done | with_reducible rfl
        try simp only [Act.put, List.setIfInBounds_toArray, List.set_cons_zero, List.set_cons_succ]
        refine wpAnyH_take (i := 6) (oi := ⟨some 119, _, _, _, _, _⟩) (v := ?_) rfl (by kernel_rfl) (by kernel_rfl) (by kernel_rfl) (fun _ _ _ h => h) (Or.inl ⟨by rfl, ?_⟩) (by assumption) ?_
        rotate_left
        · intro w hSw; go_simp; first | done | with_reducible rfl
        try simp only [Act.put, List.setIfInBounds_toArray, List.set_cons_zero, List.set_cons_succ]
        refine wpAnyH_ready (rs := [3]) (by kernel_rfl) (by simp) ?_
        refine AllReadyH.cons (o := ⟨some 116, _, _, _, _, _⟩) rfl (fun K hK => ?_) AllReadyH.nil
        go_simp
        refine (HF1.out _ hHeld).mono ?_
        rintro d u3 ⟨rfl, hb⟩
        have K3 := hb
        clear hb
        go_simp
        refine hK.out _ _ (K3) (fun hHeld => ?_)
        clear hK K
        try simp only [Act.put, List.setIfInBounds_toArray, List.set_cons_zero, List.set_cons_succ]
        refine wpAnyH_ready (rs := [7]) (by kernel_rfl) (by simp) ?_
        refine AllReadyH.cons (o := ⟨some 120, _, _, _, _, _⟩) rfl (fun K hK => ?_) AllReadyH.nil
        go_simp
        refine (HF2.out _ hHeld).mono ?_
        rintro d u7 ⟨rfl, hb⟩
        have K7 := hb
        clear hb
        go_simp
        refine hK.out _ _ (K7) (fun hHeld => ?_)
        clear hK K
        try simp only [Act.put, List.setIfInBounds_toArray, List.set_cons_zero, List.set_cons_succ]
        refine wpAnyH_take (i := 8) (oi := ⟨some 121, _, _, _, _, _⟩) (v := ?_) rfl (by kernel_rfl) (by kernel_rfl) (by kernel_rfl) (fun _ _ _ h => h) (Or.inl ⟨by rfl, ?_⟩) (by assumption) ?_
        rotate_left
        · intro w hSw; go_simp; first | done | with_reducible rfl
        try simp only [Act.put, List.setIfInBounds_toArray, List.set_cons_zero, List.set_cons_succ]
        refine wpAnyH_done (by kernel_rfl) ?_ _
        refine NoPanic.normal ?_
        have B3 := Lib.hid (B0.out.below hHeld)
        clear t1 t2 t3 t4 t5 HF1 HF2 D1 hHeld B0 y0 y1 y2 p0 p1 p2 p3 pf0 pf1 pf2 pf3
        obtain ⟨q0_, q1_, q2_, q3_, qf0, qf1, qf2, qf3⟩ := B3.out.q.four
        obtain ⟨p0, p1, p2, p3, pf0, pf1, pf2, pf3⟩ := B3.out.p.four
        go_upto_region 33 with (fail)
        obtain ⟨v4, hv4⟩ : ∃ v4, v4 = put4 u7 r (.int .i64 s.b) (.int .i64 s.e) (.int .i64 s.x) (.int .i64 s.n) := ⟨_, rfl⟩
        have B4 : Hid (Bo N r M W v4 (3, xb, xc) g s s s) := by show Bo _ _ _ _ _ _ _ _ _ _; rw [hv4]; exact B3.out.setp s
        unfold put4 at hv4
        rw [← hv4]
        clear hv4 q0_ q1_ q2_ q3_ qf0 qf1 qf2 qf3 p0 p1 p2 p3 pf0 pf1 pf2 pf3 B3
        obtain ⟨p0, p1, p2, p3, pf0, pf1, pf2, pf3⟩ := B4.out.p.four
        obtain ⟨ob, hob⟩ : ∃ z, z = ovB s := ⟨_, rfl⟩
        obtain ⟨on_, hon⟩ : ∃ z, z = ovE s := ⟨_, rfl⟩
        have HOB := Lib.hid hob.symm; have HON := Lib.hid hon.symm
        clear hob hon
        go_wp2_with fail
        refine (B4.out.sover HOK.out HOB.out HON.out).mono ?_
        rintro d v5 ⟨rfl, hk⟩
        have B5 := Lib.hid hk
        clear hk B4 p0 p1 p2 p3 pf0 pf1 pf2 pf3
        obtain ⟨p0, p1, p2, p3, pf0, pf1, pf2, pf3⟩ := B5.out.p.four
        go_wp2_with fail
        refine (B5.out.used rfl rfl).mono ?_
        rintro d v6 ⟨rfl, hk⟩
        have B6 := Lib.hid hk
        clear hk B5 p0 p1 p2 p3 pf0 pf1 pf2 pf3
        go_wp2_with fail
        refine (B6.out.over HOB.out HON.out).mono ?_
        rintro d v7 ⟨rfl, hk⟩
        have B7 := Lib.hid hk
        clear hk B6
        go_wp2_with fail
        refine (B7.out.budget SBE.out.1 SBE.out.2).mono ?_
        rintro d v8 ⟨rfl, hk⟩
        have B8 := Lib.hid hk
        clear hk B7
        go_wp2_with fail
        go_roundw
        case rel => exact ⟨k + 1, _, s, by omega, rfl, by go_num, SBE.out.1, SBE.out.2, B8.out.done⟩
        case measure => simp [intOf]; omega
      have n0 : (xa == 0) = false := by simpa using h0
      have n1 : (xa == 1) = false := by simpa using h1
      have n2 : (xa == 2) = false := by simpa using h2
      have n3 : (xa == 3) = false := by simpa using h3
      clear h0 h1 h2 h3
      have Y : Blk v0 M #[.int .i64 xa, .int .i64 xb, .int .i64 xc] 39 := B0.out.y
      obtain ⟨y0, y1, y2, _⟩ := Y.three
      clear Y
      go_wp2_with fail
      refine (B0.out.copy).mono ?_
      rintro d v1 ⟨g', F, G, rfl, hk⟩
      have T1 := Lib.hid hk
      clear hk B0 y0 y1 y2
      have Y : Blk v1 M #[.int .i64 xa, .int .i64 xb, .int .i64 xc] 39 := T1.out.bo.y
      obtain ⟨y0, y1, y2, _⟩ := Y.three
      clear Y
      go_wp2_with fail
      refine (T1.out.add 100).mono ?_
      rintro d v2 ⟨rfl, F2, G2, hk⟩
      have T2 := Lib.hid hk
      clear hk T1 y0 y1 y2
      have Y : Blk v2 M #[.int .i64 xa, .int .i64 xb, .int .i64 xc] 39 := T2.out.bo.y
      obtain ⟨y0, y1, y2, _⟩ := Y.three
      clear Y
      go_wp2_with fail
      refine (T2.out.rem xb).mono ?_
      rintro d v3 ⟨rfl, F3, G3, hk⟩
      have B3 := Lib.hid hk.bo
      clear hk T2 y0 y1 y2
      obtain ⟨q0_, q1_, q2_, q3_, qf0, qf1, qf2, qf3⟩ := B3.out.q.four
      obtain ⟨p0, p1, p2, p3, pf0, pf1, pf2, pf3⟩ := B3.out.p.four
      go_upto_region 33 with (fail)
      obtain ⟨v4, hv4⟩ : ∃ v4, v4 = put4 v3 r (.int .i64 s.b) (.int .i64 s.e) (.int .i64 s.x) (.int .i64 s.n) := ⟨_, rfl⟩
      have B4 : Hid (Bo N r M W v4 (xa, xb, xc) g' s s s) := by show Bo _ _ _ _ _ _ _ _ _ _; rw [hv4]; exact B3.out.setp s
      unfold put4 at hv4
      rw [← hv4]
      clear hv4 q0_ q1_ q2_ q3_ qf0 qf1 qf2 qf3 p0 p1 p2 p3 pf0 pf1 pf2 pf3 B3
      obtain ⟨p0, p1, p2, p3, pf0, pf1, pf2, pf3⟩ := B4.out.p.four
      obtain ⟨ob, hob⟩ : ∃ z, z = ovB s := ⟨_, rfl⟩
      obtain ⟨on_, hon⟩ : ∃ z, z = ovE s := ⟨_, rfl⟩
      have HOB := Lib.hid hob.symm; have HON := Lib.hid hon.symm
      clear hob hon
      go_wp2_with fail
      refine (B4.out.sover HOK.out HOB.out HON.out).mono ?_
      rintro d v5 ⟨rfl, hk⟩
      have B5 := Lib.hid hk
      clear hk B4 p0 p1 p2 p3 pf0 pf1 pf2 pf3
      obtain ⟨p0, p1, p2, p3, pf0, pf1, pf2, pf3⟩ := B5.out.p.four
      go_wp2_with fail
      refine (B5.out.used rfl rfl).mono ?_
      rintro d v6 ⟨rfl, hk⟩
      have B6 := Lib.hid hk
      clear hk B5 p0 p1 p2 p3 pf0 pf1 pf2 pf3
      go_wp2_with fail
      refine (B6.out.over HOB.out HON.out).mono ?_
      rintro d v7 ⟨rfl, hk⟩
      have B7 := Lib.hid hk
      clear hk B6
      go_wp2_with fail
      refine (B7.out.budget SBE.out.1 SBE.out.2).mono ?_
      rintro d v8 ⟨rfl, hk⟩
      have B8 := Lib.hid hk
      clear hk B7
      go_wp2_with fail
      go_roundw
      case rel => exact ⟨k + 1, _, s, by omega, rfl, by go_num, SBE.out.1, SBE.out.2, B8.out.done⟩
      case measure => simp [intOf]; omega
    · obtain rfl : k = l.length := by omega
      have hnn : ¬ (l.length : Int) < l.length := by omega
      have hN2 : N ≤ wr.heap.size := by omega
      go_wp2_with fail
      refine (HKN.out _).mono ?_
      rintro d v ⟨rfl, hbk⟩
      have HBK := Lib.hid hbk
      clear hbk
      go_wp2_with fail
      go_ret
      exact ⟨rfl, RO.out.b.trans (HBK.out.mono hN2)⟩
end Go.Proofs.Ytocfinhbocjbgaa.Jm
