/- Proves that AccountHolds returns true at every argument. Conditions: as the row gives them. -/
import Derived.Test.YtocfinhbocjbgaaJi
import Derived.Test.YtocfinhbocjbgaaJl
import Derived.Deep.CutBlock
namespace Go.Proofs.Ytocfinhbocjbgaa.Jn
open Go.RowKit Ap Mi Nw Ja Jb Jc Je Jf Jg

/-- The sum of costs. -/
def sm : List Int → Int
  | [] => 0
  | x :: r => x + sm r
theorem sm_snoc (c : Int) : ∀ l : List Int, sm (l ++ [c]) = sm l + c
  | [] => by simp [sm]
  | x :: r => by
    have := sm_snoc c r
    show x + sm (r ++ [c]) = x + sm r + c
    omega
theorem sm_bd : ∀ l : List Int, (∀ x ∈ l, isC x) → (l.length : Int) * 65 ≤ sm l ∧ sm l ≤ (l.length : Int) * 67000
  | [], _ => by simp [sm]
  | x :: r, h => by
    have h1 := sm_bd r (fun y hy => h y (by simp [hy]))
    have h2 : isC x := h x (by simp)
    unfold isC at h2
    show ((r.length + 1 : Nat) : Int) * 65 ≤ x + sm r ∧ x + sm r ≤ ((r.length + 1 : Nat) : Int) * 67000
    omega
/-- The account that holds entries with these costs. -/
def st (b e : Int) (L : List Int) : Ac := ⟨b, e, sm L, (L.length : Int)⟩
section
variable {b e c : Int} {L M : List Int}
theorem st_no (h : ¬ isC c) : addN (st b e L) c = 3 ∧ addT (st b e L) c = st b e L := ⟨if_pos h, if_neg (fun g => h g.1)⟩
theorem st_add (hc : isC c) (hL : L.length ≤ 1000) : addN (st b e L) c = 0 ∧ addT (st b e L) c = st b e (L ++ [c]) := by
  have h1 : (L.length : Int) < 2097152 := by omega
  refine ⟨by unfold addN; rw [if_neg (by simpa using hc), if_neg (by show ¬ (2097152 : Int) ≤ (L.length : Int); omega)], ?_⟩
  unfold addT
  rw [if_pos ⟨hc, h1⟩]
  unfold st
  rw [sm_snoc]
  simp
theorem can_of (hm : sm M = sm L + c) (hl : M.length = L.length + 1) (hL : ∀ x ∈ L, isC x) : can (st b e M) c := by
  have h := sm_bd L hL
  unfold can st
  simp only
  rw [hm, hl]
  omega
theorem st_rem (hc : isC c) (hm : sm M = sm L + c) (hl : M.length = L.length + 1) (hL : ∀ x ∈ L, isC x) : remN (st b e M) c = 0 ∧ remT (st b e M) c = st b e L := by
  have h := can_of (b := b) (e := e) hm hl hL
  refine ⟨by unfold remN; rw [if_neg (by simpa using hc), if_pos h], ?_⟩
  unfold remT
  rw [if_pos ⟨hc, h⟩]
  unfold st
  rw [hm, hl]
  simp only [Ac.mk.injEq, true_and]
  omega
theorem st_chg (hc : isC c) (hm : sm M = sm L + c) (hl : M.length = L.length + 1) (hL : ∀ x ∈ L, isC x) : chgN (st b e M) c c = 0 ∧ chgT (st b e M) c c = st b e M := by
  have h := can_of (b := b) (e := e) hm hl hL
  have h1 : isC c ∧ isC c := ⟨hc, hc⟩
  refine ⟨by unfold chgN; rw [if_neg (by simpa using h1), if_pos h], ?_⟩
  unfold chgT
  rw [if_pos ⟨h1, h⟩]
  unfold st
  simp only [Ac.mk.injEq, true_and, and_true]
  omega
end
theorem src_lit {w : World} {t e e' : TypeId} (hk : Try.prog.underlying t = some (.slice e)) (cs : Array Value) (n sz : Nat) (hn : cs.size = n * sz) (h1 : ∀ u ∈ cs.toList, u.oneCell' = true) : Src Try.prog sz t (.slice (some ⟨w.heap.size, 0, none⟩) n n) n cs.toList (w.alloc (.cells cs e')) :=
  Src.ofSlice _ hk _ n n cs.toList (by simpa using hn) (fun j u hu => by
    rw [Nw.add_lit, Nat.zero_add, cell_of_row _ _ j cs e' (0, 0) (heap_alloc_new w _)]; simpa using hu) h1
theorem only_row {w w' : World} {A : Option Addr} {F : Nat → Prop} (h : w.grownBy w' (A.map (·.block))) (hA : ∀ a, A = some a → F a.block) : Only F w w' :=
  Only.of_grown h (fun k e => by rw [Option.map_eq_some_iff] at e; obtain ⟨a, ha, e⟩ := e; rw [← e]; exact hA a ha)
theorem elI : Elm Try.prog 54 3 (.int .i64 0) 1 where
  sl := Try.underlying54
  info := by kernel_rfl
  small := by
    have h : (Try.prog.info? 3).map (·.bytes) = some 8 := by kernel_rfl
    intro i hi; rw [hi] at h; simp at h; omega
  cells := rfl
  pos := by omega
/-- The account beside the row of its costs. -/
structure Ho (N : Nat) (F : Nat → Prop) (W w : World) (g : Nat) (s : Ac) (X : Option Addr) (d : Nat) (L : List Int) : Prop where
  t : Ah F w g s
  m : Mine N 1 w X L.length d (Jl.inL L)
  f : ∀ j, F j → N ≤ j
  x : ∀ a, X = some a → ¬ F a.block
  b : Below N W w
  z : N ≤ w.heap.size
def Hx (N : Nat) (W w : World) (g : Nat) (s : Ac) (X : Option Addr) (d : Nat) (L : List Int) : Prop := ∃ F, Ho N F W w g s X d L
section
variable {N g d : Nat} {W w w' : World} {s s' : Ac} {X : Option Addr} {L : List Int} {e : Int}
theorem Hx.b (h : Hx N W w g s X d L) : Below N W w := by obtain ⟨F, h⟩ := h; exact h.b
theorem Hx.z (h : Hx N W w g s X d L) : N ≤ w.heap.size := by obtain ⟨F, h⟩ := h; exact h.z
theorem Hx.m (h : Hx N W w g s X d L) : Mine N 1 w X L.length d (Jl.inL L) := by obtain ⟨F, h⟩ := h; exact h.m
theorem Hx.below (h : Hx N W w g s X d L) (hb : Below w.heap.size w w') : Hx N W w' g s X d L := by
  obtain ⟨F, h⟩ := h
  exact ⟨F, h.t.below hb (Nat.le_refl _), h.m.below hb (Nat.le_refl _), h.f, h.x, h.b.trans (hb.mono h.z), Nat.le_trans h.z hb.size⟩
theorem Hx.app (h : Hx N W w g s X d L) (c : Int) {A' : Option Addr} {c' : Nat} {o : Obj} (hm : Mine N 1 w' A' (L.length + 1) c' (Jl.inL L ++ [.int .i64 c])) (hg : (w.alloc o).grownBy w' (X.map (·.block))) (ha : A' = X ∨ ∀ a, A' = some a → w.heap.size + 1 ≤ a.block) : Hx N W w' g s A' c' (L ++ [c]) := by
  obtain ⟨F, h⟩ := h
  have hb := bnew w o
  have ho : Only (fun j => ∃ a, X = some a ∧ a.block = j) (w.alloc o) w' := only_row hg (fun a ha => ⟨a, ha, rfl⟩)
  refine ⟨fun j => F j ∧ j < w.heap.size, (h.t.tight.below hb (Nat.le_refl _)).only ho (fun j hf ⟨a, h1, h2⟩ => h.x a h1 (by rw [h2]; exact hf.1)), ?_, fun j hf => h.f j hf.1, fun a h1 hf => ?_, h.b.trans ((hb.mono h.z).trans (ho.below (fun j ⟨a, h1, h2⟩ => by rw [← h2]; exact (h.m.base h1).1) (Nat.le_trans h.z hb.size))), Nat.le_trans h.z (Nat.le_trans hb.size ho.size)⟩
  · have e1 : (L ++ [c]).length = L.length + 1 := by simp
    have e2 : Jl.inL (L ++ [c]) = Jl.inL L ++ [.int .i64 c] := by unfold Jl.inL; simp
    rw [e1, e2]; exact hm
  · rcases ha with ha | ha
    · exact h.x a (ha ▸ h1) hf.1
    · have := ha a h1; have := hf.2; omega
theorem Hx.wr (h : ∃ F, Ho N F W w g s X d L ∧ ∃ u q, wrPost F w g s' u q w') : Hx N W w' g s' X d L := by
  obtain ⟨F, h, u, q, _, h2, h3⟩ := h
  exact ⟨_, h2, h.m.only h3 h.x, (fun j hf => hf.elim (h.f j) (fun hf => Nat.le_trans h.z hf)), (fun a ha hf => hf.elim (h.x a ha) (fun hf => by have := (h.m.base ha).2.1; omega)), h.b.trans (h3.below h.f h.z), Nat.le_trans h.z h3.size⟩
theorem Hx.add (h : Hx N W w g s X d L) (c : Int) (hp : addN s c = e ∧ addT s c = s') :
    Calls Try.prog 14 #[.pointer (some ⟨g, 0, none⟩), .int .i64 c] w fun q w2 => q = .returned (.int .i64 e) ∧ Hx N W w2 g s' X d L := by
  obtain ⟨he, hl⟩ := hp; subst he; subst hl
  obtain ⟨F, h⟩ := h
  exact (Je.add_any h.t c).mono fun _ _ hp => ⟨hp.1, Hx.wr ⟨F, h, _, _, hp⟩⟩
theorem Hx.rem (h : Hx N W w g s X d L) (c : Int) (hp : remN s c = e ∧ remT s c = s') :
    Calls Try.prog 16 #[.pointer (some ⟨g, 0, none⟩), .int .i64 c] w fun q w2 => q = .returned (.int .i64 e) ∧ Hx N W w2 g s' X d L := by
  obtain ⟨he, hl⟩ := hp; subst he; subst hl
  obtain ⟨F, h⟩ := h
  exact (Je.rem_any h.t c).mono fun _ _ hp => ⟨hp.1, Hx.wr ⟨F, h, _, _, hp⟩⟩
theorem Hx.chg (h : Hx N W w g s X d L) (c c' : Int) (hp : chgN s c c' = e ∧ chgT s c c' = s') :
    Calls Try.prog 18 #[.pointer (some ⟨g, 0, none⟩), .int .i64 c, .int .i64 c'] w fun q w2 => q = .returned (.int .i64 e) ∧ Hx N W w2 g s' X d L := by
  obtain ⟨he, hl⟩ := hp; subst he; subst hl
  obtain ⟨F, h⟩ := h
  exact (Je.chg_any h.t c c').mono fun _ _ hp => ⟨hp.1, Hx.wr ⟨F, h, _, _, hp⟩⟩
theorem Hx.fits (h : Hx N W w g s X d L) (c : Int) {y : Bool} (he : fitB s c = y) :
    Calls Try.prog 19 #[.pointer (some ⟨g, 0, none⟩), .int .i64 c] w fun q w2 => q = .returned (.bool y) ∧ Hx N W w2 g s X d L := by
  subst he
  have h' := h
  obtain ⟨F, h⟩ := h
  exact (Je.fits_any h.t c).mono fun _ _ hp => ⟨hp.1, h'.below hp.2⟩
theorem Hx.usedT (h : Hx N W w g s X d L) {x n : Int} (hx : s.x = x) (hn : s.n = n) :
    Calls Try.prog 26 #[.pointer (some ⟨g, 0, none⟩)] w fun q w2 => q = .returned (.tuple #[.int .i64 x, .int .i64 n]) ∧ Hx N W w2 g s X d L := by
  subst hx; subst hn
  have h' := h
  obtain ⟨F, h⟩ := h
  exact (Je.used_any h.t).mono fun _ _ hp => ⟨hp.1, h'.below hp.2⟩
theorem Hx.used (h : Hx N W w g s X d L) {x n : Int} (hx : s.x = x) (hn : s.n = n) :
    Calls Try.prog 23 #[.pointer (some ⟨g, 0, none⟩), .int .i64 x, .int .i64 n] w fun q w2 => q = .returned (.bool true) ∧ Hx N W w2 g s X d L := by
  have h' := h
  obtain ⟨F, h⟩ := h
  exact (used_is h.t hx hn).mono fun _ _ hp => ⟨hp.1, h'.below hp.2⟩
theorem Hx.over (h : Hx N W w g s X d L) {x n : Int} (hx : ovB s = x) (hn : ovE s = n) :
    Calls Try.prog 24 #[.pointer (some ⟨g, 0, none⟩), .int .i64 x, .int .i64 n] w fun q w2 => q = .returned (.bool true) ∧ Hx N W w2 g s X d L := by
  have h' := h
  obtain ⟨F, h⟩ := h
  exact (over_is h.t hx hn).mono fun _ _ hp => ⟨hp.1, h'.below hp.2⟩
end
theorem cost_two (k : ByteArray) (ts : List ByteArray) : (costN k 65536 ts = 2 ∧ costN k 0 ts = 2 ∧ costV k 65536 ts = 0 ∧ costV k 0 ts = 0) ∨ (∃ m, costN k 65536 ts = 0 ∧ costN k 0 ts = 0 ∧ costV k 65536 ts = m + 65536 ∧ costV k 0 ts = m ∧ 65 ≤ m ∧ m + 65536 ≤ 67000) := by
  by_cases h : keyOk k ∧ okT ts
  · obtain ⟨a1, a2⟩ := cost_good (vn := 65536) h (by omega)
    obtain ⟨b1, b2⟩ := cost_good (vn := 0) h (by omega)
    have h1 := sumT_le (Nat.le_refl _) h.2.2
    have h2 := h.2.1
    have h3 := h.1.1
    have h4 := h.1.2
    exact Or.inr ⟨64 + (k.size : Int) + (sumT ts ts.length : Int), a2, b2, by rw [a1]; omega, by rw [b1]; omega, by omega, by omega⟩
  · obtain ⟨a1, a2⟩ := cost_bad (vn := 65536) h
    obtain ⟨b1, b2⟩ := cost_bad (vn := 0) h
    exact Or.inl ⟨a2, b2, a1, b1⟩
theorem make_64 (w : World) : ∃ w1, (Instr.makeSlice 26 (.int .i64 65536) (.int .i64 65536)).run Try.prog w = .ok (.slice (some ⟨w.heap.size, 0, none⟩) 65536 65536) w1 ∧ Below w.heap.size w w1 := make_any 65536 w (by omega)
set_option maxRecDepth 100000 in
set_option maxHeartbeats 8000000 in
theorem holds_walk (by_ en : Int) (A : Option Addr) (q0 : Nat) (l : List Int) (gone : Int) (k : ByteArray) (B : Option Addr) (q1 : Nat) (ts : List ByteArray) (W : World) (ha : Rs W 1 A l.length q0 (Jl.inL l)) (hk : k.size ≤ 9223372036854775807) (hl : Sl W B ts q1) (hs : ∀ t ∈ ts, t.size ≤ 9223372036854775807) :
    Calls Try.prog 7 #[.int .i64 by_, .int .i64 en, .slice A l.length q0, .int .i64 gone, .string k, .slice B ts.length q1] W (boolTo true W) := by
  have HKN : Hid (∀ w1, Calls Try.prog 8 #[] w1 (boolTo true w1)) := fun w1 => known_any w1
  have HA := Lib.hid ha
  have HS := Lib.hid hl
  have HT := Lib.hid hs
  have hal := ha.le
  have ham := ha.max
  have hcl := Rs.le hl
  have hcm := Rs.max hl
  unfold maxLen at hcm ham
  clear ha hl hs
  obtain ⟨N, hN⟩ : ∃ N, N = W.heap.size := ⟨_, rfl⟩
  have HN := Lib.hid hN
  unfold boolTo at HKN ⊢
  rw [← hN]
  clear hN
  by_cases h0 : by_ < 1
  case pos =>
    go_enter Try.func7, Try.ntmps7
    go_wp2_with fail
    refine (HKN.out W).mono ?_
    rintro q w1 ⟨rfl, hb⟩
    have HB := Lib.hid hb
    clear hb
    go_wp2_with fail
    go_ret
    exact ⟨rfl, by rw [HN.out]; exact HB.out⟩
  have m0 : 1 ≤ by_ := by omega
  clear h0
  by_cases h1 : by_ > 1099511627776
  case pos =>
    go_enter Try.func7, Try.ntmps7
    go_wp2_with fail
    refine (HKN.out W).mono ?_
    rintro q w1 ⟨rfl, hb⟩
    have HB := Lib.hid hb
    clear hb
    go_wp2_with fail
    go_ret
    exact ⟨rfl, by rw [HN.out]; exact HB.out⟩
  have m1 : by_ ≤ 1099511627776 := by omega
  clear h1
  by_cases h2 : en < 1
  case pos =>
    go_enter Try.func7, Try.ntmps7
    go_wp2_with fail
    refine (HKN.out W).mono ?_
    rintro q w1 ⟨rfl, hb⟩
    have HB := Lib.hid hb
    clear hb
    go_wp2_with fail
    go_ret
    exact ⟨rfl, by rw [HN.out]; exact HB.out⟩
  have m2 : 1 ≤ en := by omega
  clear h2
  by_cases h3 : en > 1048576
  case pos =>
    go_enter Try.func7, Try.ntmps7
    go_wp2_with fail
    refine (HKN.out W).mono ?_
    rintro q w1 ⟨rfl, hb⟩
    have HB := Lib.hid hb
    clear hb
    go_wp2_with fail
    go_ret
    exact ⟨rfl, by rw [HN.out]; exact HB.out⟩
  have m3 : en ≤ 1048576 := by omega
  clear h3
  by_cases h4 : (l.length : Int) > 60
  case pos =>
    go_enter Try.func7, Try.ntmps7
    go_wp2_with fail
    refine (HKN.out W).mono ?_
    rintro q w1 ⟨rfl, hb⟩
    have HB := Lib.hid hb
    clear hb
    go_wp2_with fail
    go_ret
    exact ⟨rfl, by rw [HN.out]; exact HB.out⟩
  have m4 : (l.length : Int) ≤ 60 := by omega
  clear h4
  by_cases h5 : (k.size : Int) > 600
  case pos =>
    go_enter Try.func7, Try.ntmps7
    go_wp2_with fail
    refine (HKN.out W).mono ?_
    rintro q w1 ⟨rfl, hb⟩
    have HB := Lib.hid hb
    clear hb
    go_wp2_with fail
    go_ret
    exact ⟨rfl, by rw [HN.out]; exact HB.out⟩
  have m5 : (k.size : Int) ≤ 600 := by omega
  clear h5
  by_cases h6 : (ts.length : Int) > 40
  case pos =>
    go_enter Try.func7, Try.ntmps7
    go_wp2_with fail
    refine (HKN.out W).mono ?_
    rintro q w1 ⟨rfl, hb⟩
    have HB := Lib.hid hb
    clear hb
    go_wp2_with fail
    go_ret
    exact ⟨rfl, by rw [HN.out]; exact HB.out⟩
  have m6 : (ts.length : Int) ≤ 40 := by omega
  clear h6
  have HBU : Hid (bud by_ en) := ⟨m0, m1, m2, m3⟩
  have HNY := Lib.hid (new_yes HBU.out W)
  unfold newPost at HNY
  go_enter Try.func7, Try.ntmps7
  go_wp2_with fail
  refine HNY.out.mono ?_
  rintro e w1 ⟨g, rfl, ht, hb⟩
  have K0 : Hid (Hx N W w1 g (st by_ en []) none 0 []) := ⟨fun j => N ≤ j, ht.mono (fun j _ hj => by rw [HN.out]; exact hj), Mine.nil _ _ _, fun _ h => h, (fun a e => by cases e), by rw [HN.out]; exact hb, by rw [HN.out]; exact hb.size⟩
  clear ht hb HNY
  go_wp2_with fail
  go_loopw [15, 16, 71] (fun cv sv_ i wr => ∃ (j : Nat) (X : Option Addr) (d : Nat) (L : List Int), j ≤ l.length ∧ L.length ≤ j ∧ cv = .slice X L.length d ∧ sv_ = .int .i64 (sm L) ∧ i = .int .i64 (j : Int) ∧ (∀ x ∈ L, isC x) ∧ Hx N W wr g (st by_ en L) X d L) (fun _ _ i _ => l.length - (intOf i).toNat)
  case atStart => exact ⟨0, none, 0, [], Nat.zero_le _, Nat.le_refl _, rfl, rfl, rfl, (by simp), K0.out⟩
  case round =>
    obtain ⟨j, X, d, L, hj, hLj, rfl, rfl, rfl, hall, hx⟩ := hrel
    have K1 := Lib.hid hx
    have HALL := Lib.hid hall
    have hdl := hx.m.le; have hdm := hx.m.max
    unfold maxLen at hdm
    have hL60 : L.length ≤ 60 := by omega
    have hz := hx.z
    have bd := sm_bd L hall
    clear hx hall K0
    by_cases hlt : j < l.length
    · have j1 : (j : Int) < (l.length : Int) := by omega
      have RD := HA.out.rd.below K1.out.b (by have := HN.out; omega)
      obtain ⟨tb, to_, rfl, ltb, a0⟩ := RD.at_ (Jl.inL_get hlt)
      obtain ⟨c, hc⟩ : ∃ c, c = l[j] := ⟨_, rfl⟩
      rw [← hc] at a0
      clear RD hc
      by_cases c0 : c < 65
      case pos =>
        have SN := Lib.hid (st_no (b := by_) (e := en) (L := L) (c := c) (fun h => by have h1 := h.1; have h2 := h.2; omega))
        clear bd
        go_wp2_with fail
        refine (K1.out.add c SN.out).mono ?_
        rintro q w12 ⟨rfl, hk⟩
        have K2 := Lib.hid hk
        clear hk K1
        go_wp2_with fail
        go_roundw
        case rel => exact ⟨j + 1, X, d, L, by omega, by omega, rfl, rfl, by go_num, HALL.out, K2.out⟩
        case measure => simp [intOf]; omega
      have c0b : 65 ≤ c := by omega
      clear c0
      by_cases c1 : c > 67000
      case pos =>
        have SN := Lib.hid (st_no (b := by_) (e := en) (L := L) (c := c) (fun h => by have h1 := h.1; have h2 := h.2; omega))
        clear bd
        go_wp2_with fail
        refine (K1.out.add c SN.out).mono ?_
        rintro q w12 ⟨rfl, hk⟩
        have K2 := Lib.hid hk
        clear hk K1
        go_wp2_with fail
        go_roundw
        case rel => exact ⟨j + 1, X, d, L, by omega, by omega, rfl, rfl, by go_num, HALL.out, K2.out⟩
        case measure => simp [intOf]; omega
      have c1b : c ≤ 67000 := by omega
      have HC : Hid (isC c) := ⟨c0b, c1b⟩
      clear c1
      obtain ⟨M, hM⟩ : ∃ M, M = L ++ [c] := ⟨_, rfl⟩
      have SA : Hid (addN (st by_ en L) c = 0 ∧ addT (st by_ en L) c = st by_ en M) := by show _ ∧ _; rw [hM]; exact st_add HC.out (by omega)
      have hm1 : sm M = sm L + c := by rw [hM, sm_snoc]
      have hm2 : M.length = L.length + 1 := by rw [hM]; simp
      have SR := Lib.hid (st_rem (b := by_) (e := en) HC.out hm1 hm2 HALL.out)
      have SC := Lib.hid (st_chg (b := by_) (e := en) HC.out hm1 hm2 HALL.out)
      have HM := Lib.hid hM; have HM1 := Lib.hid hm1; have HM2 := Lib.hid hm2
      have HALLM : Hid (∀ x ∈ M, isC x) := by show ∀ x ∈ M, isC x; rw [hM]; intro x hx; rcases List.mem_append.1 hx with h | h; exact HALL.out x h; rw [List.mem_singleton.1 h]; exact HC.out
      clear hM hm1 hm2
      have hee : (sm L == sm L) = true := by simp
      go_wp2_with fail
      refine (K1.out.usedT (x := sm L) (n := (L.length : Int)) rfl rfl).mono ?_
      rintro q w12 ⟨rfl, hk⟩
      have K2 := Lib.hid hk
      clear hk K1
      go_wp2_with fail
      refine (K2.out.add c SA.out).mono ?_
      rintro q w13 ⟨rfl, hk⟩
      have K3 := Lib.hid hk
      clear hk K2
      go_wp2_with fail
      refine (K3.out.rem c SR.out).mono ?_
      rintro q w14 ⟨rfl, hk⟩
      have K4 := Lib.hid hk
      clear hk K3
      go_wp2_with fail
      refine (K4.out.used rfl rfl).mono ?_
      rintro q w15 ⟨rfl, hk⟩
      have K5 := Lib.hid hk
      clear hk K4
      go_wp2_with fail
      refine (K5.out.add c SA.out).mono ?_
      rintro q w16 ⟨rfl, hk⟩
      have K6 := Lib.hid hk
      clear hk K5
      go_wp2_with fail
      refine (K6.out.chg c c SC.out).mono ?_
      rintro q w17 ⟨rfl, hk⟩
      have K7 := Lib.hid hk
      clear hk K6
      go_wp2_with (at_builtin; (refine wpList_mine rfl _ _ elI _ rfl rfl (K7.out.m.below (bnew w17 (.cells #[.int .i64 c] 3)) (Nat.le_refl _)) _ rfl 1 _ (src_lit Try.underlying54 #[.int .i64 c] 1 1 rfl (by simp [Value.oneCell'])) (by omega) (by omega) (by have := K7.out.z; simp; omega) ?_))
      intro A5 c5 w18 mm5 g5 e5
      have K8 : Hid (Hx N W w18 g (st by_ en M) A5 c5 M) := by show Hx _ _ _ _ _ _ _ _; have := K7.out.app c mm5 g5 e5; rw [← HM.out] at this; exact this
      clear mm5 g5 e5 K7
      rw [← HM2.out]
      have hlM : M.length ≤ 61 := by have := HM2.out; omega
      go_wp2_with fail
      refine (K8.out.used (x := sm L + c) (n := (M.length : Int)) HM1.out rfl).mono ?_
      rintro q w19 ⟨rfl, hk⟩
      have K9 := Lib.hid hk
      clear hk K8
      have FT : Hid (fitB (st by_ en M) c = decide (c ≤ by_)) := by show _ = _; unfold fitB st; simp [HC.out]
      go_wp2_with fail
      all_goals
        refine (K9.out.over (by have := HM1.out; show max 0 (sm M - by_) = _; omega) (by show max 0 ((M.length : Int) - en) = _; omega)).mono ?_
        rintro q w20 ⟨rfl, hk⟩
        have K10 := Lib.hid hk
        clear hk K9
        go_wp2_with fail
        refine (K10.out.fits c FT.out).mono ?_
        rintro q w21 ⟨rfl, hk⟩
        have K11 := Lib.hid hk
        clear hk K10
        go_wp2_with fail
        go_roundw
        case rel => exact ⟨j + 1, A5, c5, M, by omega, by have := HM2.out; omega, rfl, by rw [HM1.out], by go_num, HALLM.out, K11.out⟩
        case measure => simp [intOf]; omega
    · obtain rfl : j = l.length := by omega
      have hnn : ¬ (l.length : Int) < l.length := by omega
      clear hlt bd
      go_wp2_with fail
      go_loopw [16, 21] (fun sv_ i wr9 => ∃ (I : Nat) (M : List Int), I ≤ L.length ∧ sv_ = .int .i64 (sm M) ∧ i = .int .i64 (I : Int) ∧ Hid (M = L.drop I) ∧ Hx N W wr9 g (st by_ en M) X d L) (fun _ i _ => L.length - (intOf i).toNat)
      case atStart => exact ⟨0, L, Nat.zero_le _, rfl, rfl, by show L = _; simp, K1.out⟩
      case round =>
        obtain ⟨I, M, hI, rfl, rfl, HMd, hx⟩ := hrel
        have K12 := Lib.hid hx
        have hzz := hx.z
        clear hx K1
        have HALLM : Hid (∀ x ∈ M, isC x) := by show ∀ x ∈ M, isC x; rw [HMd.out]; exact fun x hx => HALL.out x (List.mem_of_mem_drop hx)
        by_cases hgo : (I : Int) < gone
        · by_cases hIl : I < L.length
          · have i1 : (I : Int) < (L.length : Int) := by omega
            obtain ⟨cb, co, rfl, lcb, ca⟩ := (Rl.mine K12.out.m).at_ (Jl.inL_get hIl)
            obtain ⟨c, hc⟩ : ∃ c, c = L[I] := ⟨_, rfl⟩
            obtain ⟨M2, hM2⟩ : ∃ M2, M2 = L.drop (I + 1) := ⟨_, rfl⟩
            have hMM : M = c :: M2 := by rw [HMd.out, hc, hM2]; exact List.drop_eq_getElem_cons hIl
            have HC : Hid (isC c) := by show isC c; rw [hc]; exact HALL.out _ (List.getElem_mem hIl)
            have hs1 : sm M = sm M2 + c := by rw [hMM]; show c + sm M2 = _; omega
            have hs2 : M.length = M2.length + 1 := by rw [hMM]; simp
            have hal2 : ∀ x ∈ M2, isC x := fun x hx => HALLM.out x (by rw [hMM]; simp [hx])
            have hlen2 : (M2.length : Int) = (L.length : Int) - (I : Int) - 1 := by rw [hM2, List.length_drop]; omega
            have SR := Lib.hid (st_rem (b := by_) (e := en) HC.out hs1 hs2 hal2)
            have bd2 := sm_bd M2 hal2
            have hml : M2.length ≤ 60 := by omega
            have hM1d := HMd.out
            have HS1 := Lib.hid hs1; have HL2 := Lib.hid hlen2; have HM2 := Lib.hid hM2
            have hcI : isC c := HC.out
            unfold isC at hcI
            rw [← hc] at ca
            have HCC := Lib.hid hc
            have bds : sm M ≤ 61 * 67000 ∧ 0 ≤ sm M := by omega
            clear hc hM2 hMM hs1 hs2 hal2 hlen2 hM1d
            go_wp2_with fail
            refine (K12.out.rem c SR.out).mono ?_
            rintro q w23 ⟨rfl, hk⟩
            have K13 := Lib.hid hk
            clear hk K12
            have ca2 : w23.cell? ⟨cb, co + I, none⟩ = some (.int .i64 c) := by obtain ⟨cb2, co2, h1, _, h3⟩ := (Rl.mine K13.out.m).at_ (Jl.inL_get hIl); injection h1 with h1; injection h1 with h1 h2; subst h1; subst h2; rw [h3, ← HCC.out]
            go_wp2_with fail
            refine (K13.out.used (x := sm M - c) (n := (L.length : Int) - (I : Int) - 1) (by show sm M2 = _; have := HS1.out; omega) HL2.out).mono ?_
            rintro q w24 ⟨rfl, hk⟩
            have K14 := Lib.hid hk
            clear hk K13
            go_wp2_with fail
            go_roundw
            case rel => exact ⟨I + 1, M2, by omega, by rw [show sm M - c = sm M2 from by have := HS1.out; omega], by go_num, HM2, K14.out⟩
            case measure => simp [intOf]; omega
          · obtain rfl : I = L.length := by omega
            have i2 : ¬ (L.length : Int) < (L.length : Int) := by omega
            have HBW : Hid (Below N W wr ∧ N ≤ wr.heap.size) := ⟨K12.out.b, K12.out.z⟩
            go_wp2_with fail
            go_loopw [192] (fun i wr9 => ∃ J : Nat, J ≤ ts.length ∧ i = .int .i64 (J : Int) ∧ wr9 = wr ∧ Hid (∀ i (h : i < ts.length), i < J → ts[i].size ≤ 100)) (fun i _ => ts.length - (intOf i).toNat)
            case atStart => exact ⟨0, Nat.zero_le _, rfl, rfl, fun i h hi => by omega⟩
            case round =>
              obtain ⟨J, hJ, rfl, rfl, HLT⟩ := hrel
              have HS2 : Hid (Sl wr B ts q1) := HS.out.below HBW.out.1 (by have := HN.out; omega)
              by_cases hJt : J < ts.length
              · have J1 : (J : Int) < (ts.length : Int) := by omega
                obtain ⟨b, o, rfl, lb, a0⟩ := HS2.out.at_ hJt
                have hts := HT.out _ (List.getElem_mem hJt)
                obtain ⟨t, ht⟩ : ∃ t, t = ts[J] := ⟨_, rfl⟩
                rw [← ht] at a0 hts
                have HTK := Lib.hid ht
                clear ht
                by_cases h5 : 100 < t.size
                · have g5 : (t.size : Int) > 100 := by omega
                  clear h5
                  go_wp2_with fail
                  refine (HKN.out wr).mono ?_
                  rintro q w31 ⟨rfl, hb⟩
                  have HB := Lib.hid (HBW.out.1.trans (hb.mono HBW.out.2))
                  clear hb
                  go_wp2_with fail
                  go_ret
                  exact ⟨rfl, HB.out⟩
                · have g5 : ¬ (t.size : Int) > 100 := by omega
                  have HN2 : Hid (∀ i (h : i < ts.length), i < J + 1 → ts[i].size ≤ 100) := fun i h hi => by
                    by_cases e : i = J
                    · subst e; rw [← HTK.out]; omega
                    · exact HLT.out i h (by omega)
                  clear h5
                  go_wp2_with fail
                  go_roundw
                  case rel => exact ⟨J + 1, by omega, by go_num, trivial, HN2⟩
                  case measure => simp [intOf]; omega
              · obtain rfl : J = ts.length := by omega
                have hnt : ¬ (ts.length : Int) < ts.length := by omega
                clear hJt
                obtain ⟨w32, hmk, hb⟩ := make_64 wr
                have B32 : Hid (Below N W w32 ∧ N ≤ w32.heap.size) := ⟨HBW.out.1.trans (hb.mono HBW.out.2), Nat.le_trans HBW.out.2 hb.size⟩
                have HTZ : ∀ t ∈ ts, t.size ≤ 1000000 := fun t ht => by obtain ⟨i, hi, rfl⟩ := List.getElem_of_mem ht; have := HLT.out i hi hi; omega
                have HC1 := Lib.hid (pcost_any k 65536 q1 65536 (some ⟨wr.heap.size, 0, none⟩) B ts w32 (HS2.out.below hb (Nat.le_refl _)) (by omega) (by omega) HTZ)
                have HC2 : Hid (∀ v, Below w32.heap.size w32 v → Calls Try.prog 27 #[.string k, .slice none 0 0, .slice B ts.length q1] v (vPost v (.tuple #[.int .i64 (costV k 0 ts), .int .i64 (costN k 0 ts)]))) := fun v hv => pcost_any k 0 q1 0 none B ts v ((HS2.out.below hb (Nat.le_refl _)).below hv (Nat.le_refl _)) (by omega) (by omega) HTZ
                unfold vPost at HC1 HC2
                clear hb HTZ
                rcases cost_two k ts with ⟨c1, c2, c3, c4⟩ | ⟨m, c1, c2, c3, c4, c5, c6⟩
                · rw [c1, c3] at HC1
                  rw [c2, c4] at HC2
                  clear c1 c2 c3 c4
                  go_wp2_with fail
                  refine HC1.out.mono ?_
                  rintro q w33 ⟨rfl, hb⟩
                  have B33 := Lib.hid hb
                  clear hb HC1
                  go_wp2_with fail
                  refine (HC2.out w33 B33.out).mono ?_
                  rintro q w34 ⟨rfl, hb⟩
                  have B34 : Hid (Below N W w34 ∧ N ≤ w34.heap.size) := ⟨B32.out.1.trans ((B33.out.trans (hb.mono B33.out.size)).mono B32.out.2), Nat.le_trans B32.out.2 (Nat.le_trans B33.out.size hb.size)⟩
                  clear hb HC2 B33
                  go_wp2_with fail
                  refine (HKN.out w34).mono ?_
                  rintro q w35 ⟨rfl, hb⟩
                  have HB := Lib.hid (B34.out.1.trans (hb.mono B34.out.2))
                  clear hb
                  go_wp2_with fail
                  go_ret
                  exact ⟨rfl, HB.out⟩
                · have cmm : (m + 65536 == m + 65536) = true := by simp
                  rw [c1, c3] at HC1
                  rw [c2, c4] at HC2
                  clear c1 c2 c3 c4
                  go_wp2_with fail
                  refine HC1.out.mono ?_
                  rintro q w33 ⟨rfl, hb⟩
                  have B33 := Lib.hid hb
                  clear hb HC1
                  go_wp2_with fail
                  refine (HC2.out w33 B33.out).mono ?_
                  rintro q w34 ⟨rfl, hb⟩
                  have B34 : Hid (Below N W w34 ∧ N ≤ w34.heap.size) := ⟨B32.out.1.trans ((B33.out.trans (hb.mono B33.out.size)).mono B32.out.2), Nat.le_trans B32.out.2 (Nat.le_trans B33.out.size hb.size)⟩
                  clear hb HC2 B33
                  go_wp2_with fail
                  refine (HKN.out w34).mono ?_
                  rintro q w35 ⟨rfl, hb⟩
                  have HB := Lib.hid (B34.out.1.trans (hb.mono B34.out.2))
                  clear hb
                  go_wp2_with fail
                  go_ret
                  exact ⟨rfl, HB.out⟩
        · have HBW : Hid (Below N W wr ∧ N ≤ wr.heap.size) := ⟨K12.out.b, K12.out.z⟩
          go_wp2_with fail
          go_loopw [192] (fun i wr9 => ∃ J : Nat, J ≤ ts.length ∧ i = .int .i64 (J : Int) ∧ wr9 = wr ∧ Hid (∀ i (h : i < ts.length), i < J → ts[i].size ≤ 100)) (fun i _ => ts.length - (intOf i).toNat)
          case atStart => exact ⟨0, Nat.zero_le _, rfl, rfl, fun i h hi => by omega⟩
          case round =>
            obtain ⟨J, hJ, rfl, rfl, HLT⟩ := hrel
            have HS2 : Hid (Sl wr B ts q1) := HS.out.below HBW.out.1 (by have := HN.out; omega)
            by_cases hJt : J < ts.length
            · have J1 : (J : Int) < (ts.length : Int) := by omega
              obtain ⟨b, o, rfl, lb, a0⟩ := HS2.out.at_ hJt
              have hts := HT.out _ (List.getElem_mem hJt)
              obtain ⟨t, ht⟩ : ∃ t, t = ts[J] := ⟨_, rfl⟩
              rw [← ht] at a0 hts
              have HTK := Lib.hid ht
              clear ht
              by_cases h5 : 100 < t.size
              · have g5 : (t.size : Int) > 100 := by omega
                clear h5
                go_wp2_with fail
                refine (HKN.out wr).mono ?_
                rintro q w31 ⟨rfl, hb⟩
                have HB := Lib.hid (HBW.out.1.trans (hb.mono HBW.out.2))
                clear hb
                go_wp2_with fail
                go_ret
                exact ⟨rfl, HB.out⟩
              · have g5 : ¬ (t.size : Int) > 100 := by omega
                have HN2 : Hid (∀ i (h : i < ts.length), i < J + 1 → ts[i].size ≤ 100) := fun i h hi => by
                  by_cases e : i = J
                  · subst e; rw [← HTK.out]; omega
                  · exact HLT.out i h (by omega)
                clear h5
                go_wp2_with fail
                go_roundw
                case rel => exact ⟨J + 1, by omega, by go_num, trivial, HN2⟩
                case measure => simp [intOf]; omega
            · obtain rfl : J = ts.length := by omega
              have hnt : ¬ (ts.length : Int) < ts.length := by omega
              clear hJt
              obtain ⟨w32, hmk, hb⟩ := make_64 wr
              have B32 : Hid (Below N W w32 ∧ N ≤ w32.heap.size) := ⟨HBW.out.1.trans (hb.mono HBW.out.2), Nat.le_trans HBW.out.2 hb.size⟩
              have HTZ : ∀ t ∈ ts, t.size ≤ 1000000 := fun t ht => by obtain ⟨i, hi, rfl⟩ := List.getElem_of_mem ht; have := HLT.out i hi hi; omega
              have HC1 := Lib.hid (pcost_any k 65536 q1 65536 (some ⟨wr.heap.size, 0, none⟩) B ts w32 (HS2.out.below hb (Nat.le_refl _)) (by omega) (by omega) HTZ)
              have HC2 : Hid (∀ v, Below w32.heap.size w32 v → Calls Try.prog 27 #[.string k, .slice none 0 0, .slice B ts.length q1] v (vPost v (.tuple #[.int .i64 (costV k 0 ts), .int .i64 (costN k 0 ts)]))) := fun v hv => pcost_any k 0 q1 0 none B ts v ((HS2.out.below hb (Nat.le_refl _)).below hv (Nat.le_refl _)) (by omega) (by omega) HTZ
              unfold vPost at HC1 HC2
              clear hb HTZ
              rcases cost_two k ts with ⟨c1, c2, c3, c4⟩ | ⟨m, c1, c2, c3, c4, c5, c6⟩
              · rw [c1, c3] at HC1
                rw [c2, c4] at HC2
                clear c1 c2 c3 c4
                go_wp2_with fail
                refine HC1.out.mono ?_
                rintro q w33 ⟨rfl, hb⟩
                have B33 := Lib.hid hb
                clear hb HC1
                go_wp2_with fail
                refine (HC2.out w33 B33.out).mono ?_
                rintro q w34 ⟨rfl, hb⟩
                have B34 : Hid (Below N W w34 ∧ N ≤ w34.heap.size) := ⟨B32.out.1.trans ((B33.out.trans (hb.mono B33.out.size)).mono B32.out.2), Nat.le_trans B32.out.2 (Nat.le_trans B33.out.size hb.size)⟩
                clear hb HC2 B33
                go_wp2_with fail
                refine (HKN.out w34).mono ?_
                rintro q w35 ⟨rfl, hb⟩
                have HB := Lib.hid (B34.out.1.trans (hb.mono B34.out.2))
                clear hb
                go_wp2_with fail
                go_ret
                exact ⟨rfl, HB.out⟩
              · have cmm : (m + 65536 == m + 65536) = true := by simp
                rw [c1, c3] at HC1
                rw [c2, c4] at HC2
                clear c1 c2 c3 c4
                go_wp2_with fail
                refine HC1.out.mono ?_
                rintro q w33 ⟨rfl, hb⟩
                have B33 := Lib.hid hb
                clear hb HC1
                go_wp2_with fail
                refine (HC2.out w33 B33.out).mono ?_
                rintro q w34 ⟨rfl, hb⟩
                have B34 : Hid (Below N W w34 ∧ N ≤ w34.heap.size) := ⟨B32.out.1.trans ((B33.out.trans (hb.mono B33.out.size)).mono B32.out.2), Nat.le_trans B32.out.2 (Nat.le_trans B33.out.size hb.size)⟩
                clear hb HC2 B33
                go_wp2_with fail
                refine (HKN.out w34).mono ?_
                rintro q w35 ⟨rfl, hb⟩
                have HB := Lib.hid (B34.out.1.trans (hb.mono B34.out.2))
                clear hb
                go_wp2_with fail
                go_ret
                exact ⟨rfl, HB.out⟩
end Go.Proofs.Ytocfinhbocjbgaa.Jn
