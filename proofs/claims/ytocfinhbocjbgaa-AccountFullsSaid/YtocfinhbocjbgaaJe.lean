/- Proves the contracts of the functions of package account. Conditions: as each theorem names them. -/
import Derived.Test.YtocfinhbocjbgaaJd
namespace Go.Proofs.Ytocfinhbocjbgaa.Je
open Go.RowKit Ap Mi Nw Ja Jb Jc

/-- The account in block g, in F, is s. -/
structure Ah (F : Nat → Prop) (w : World) (g : Nat) (s : Ac) : Prop where
  bk : Blk w g (cells s) 52
  inF : F g
  ok : Ok s
section
variable {F F' : Nat → Prop} {w w' : World} {g : Nat} {s : Ac}
theorem Ah.lt (h : Ah F w g s) : g < w.heap.size := h.bk.lt
theorem Ah.mono (h : Ah F w g s) (hFG : ∀ j, j < w.heap.size → F j → F' j) : Ah F' w g s := ⟨h.bk, hFG _ h.lt h.inF, h.ok⟩
theorem Ah.tight (h : Ah F w g s) : Ah (fun j => F j ∧ j < w.heap.size) w g s := h.mono fun _ hj hf => ⟨hf, hj⟩
theorem Ah.only (h : Ah F w g s) (ho : Only F' w w') (hn : ∀ j, F j → ¬ F' j) : Ah F w' g s := ⟨h.bk.only ho (hn _ h.inF), h.inF, h.ok⟩
theorem Ah.below {B : Nat} (h : Ah F w g s) (hb : Below B w w') (hB : w.heap.size ≤ B) : Ah F w' g s :=
  h.only (Only.of_below hb hB (fun _ => False)) (fun _ _ hf => hf)
/-- What a call leaves that may write. -/
def wrPost (F : Nat → Prop) (w : World) (g : Nat) (s : Ac) (v : Value) : Ending → World → Prop := fun e w' => e = .returned v ∧ Ah (More F w) w' g s ∧ Only F w w'
/-- What a call leaves that makes an account. -/
def mkPost (w : World) (s : Ac) : Ending → World → Prop := fun e w' => ∃ g, e = .returned (.pointer (some ⟨g, 0, none⟩)) ∧ Ah (fun j => w.heap.size ≤ j) w' g s ∧ Below w.heap.size w w'
def newPost (w : World) (s : Ac) : Ending → World → Prop := fun e w' => ∃ g, e = .returned (.tuple #[.pointer (some ⟨g, 0, none⟩), .int .i64 0]) ∧ Ah (fun j => w.heap.size ≤ j) w' g s ∧ Below w.heap.size w w'
theorem iscost_any (c : Int) (w : World) : Calls Try.prog 32 #[.int .i64 c] w fun q w' => q = .returned (.bool (decide (isC c))) ∧ w' = w := by
  by_cases h0 : 65 ≤ c
  · by_cases h1 : c ≤ 67000
    · have HS : Hid (isC c) := ⟨h0, h1⟩
      have g0 : c ≥ 65 := h0
      go_enter Try.func32, Try.ntmps32
      go_wp2_with fail
      go_ret
      exact ⟨retB (by simp [HS.out]), rfl⟩
    · have HS : Hid (¬ isC c) := fun h => h1 h.2
      have g0 : c ≥ 65 := h0
      go_enter Try.func32, Try.ntmps32
      go_wp2_with fail
      go_ret
      exact ⟨retB (by simp [HS.out]), rfl⟩
  · have HS : Hid (¬ isC c) := fun h => h0 h.1
    have g0 : ¬ c ≥ 65 := h0
    go_enter Try.func32, Try.ntmps32
    go_wp2_with fail
    go_ret
    exact ⟨retB (by simp [HS.out]), rfl⟩
theorem iscost_yes {c : Int} (h : isC c) (w : World) : Calls Try.prog 32 #[.int .i64 c] w fun q w' => q = .returned (.bool true) ∧ w' = w := by
  refine (iscost_any c w).mono ?_
  rintro q w' ⟨rfl, rfl⟩; exact ⟨retB (by simp [h]), rfl⟩
theorem iscost_no {c : Int} (h : ¬ isC c) (w : World) : Calls Try.prog 32 #[.int .i64 c] w fun q w' => q = .returned (.bool false) ∧ w' = w := by
  refine (iscost_any c w).mono ?_
  rintro q w' ⟨rfl, rfl⟩; exact ⟨retB (by simp [h]), rfl⟩
set_option maxRecDepth 100000 in
theorem usable_any (h : Ah F w g s) : Calls Try.prog 31 #[.pointer (some ⟨g, 0, none⟩)] w fun q w' => q = .returned (.bool true) ∧ w' = w := by
  obtain ⟨hb, _, hok⟩ := h
  obtain ⟨b, e, x, n⟩ := s
  obtain ⟨⟨hb1, hb2, he1, he2⟩, hn0, hn1, hlo, hhi⟩ := hok
  simp only at hb1 hb2 he1 he2 hn0 hn1 hlo hhi
  unfold cells at hb
  obtain ⟨x0, x1, x2, x3, _⟩ := hb.four
  have lg := hb.lt
  have HB1 := Lib.hid hb1
  clear hb
  go_enter Try.func31, Try.ntmps31
  go_wp2_with fail
  go_ret
  exact ⟨retB (by have := HB1.out; simp <;> omega), rfl⟩
/-- Some bytes and some entries. -/
def am (x n : Int) : Value := .agg #[.int .i64 x, .int .i64 n]
def posB (x n : Int) : Prop := 0 ≤ n ∧ 65 * n ≤ x ∧ x ≤ 67000 * n
instance (x n : Int) : Decidable (posB x n) := inferInstanceAs (Decidable (_ ∧ _))
theorem put2 {w w1 : World} {k : Nat} {p q : Value} {t : TypeId} (h : Blk w1 k #[p, q] t) (hb : Below k w w1) (hz : k ≤ w1.heap.size) (a b : Value) :
    ((w1.setCell ⟨k, 0, none⟩ a).setCell ⟨k, 1, none⟩ b).cell? ⟨k, 0, none⟩ = some a ∧ ((w1.setCell ⟨k, 0, none⟩ a).setCell ⟨k, 1, none⟩ b).cell? ⟨k, 1, none⟩ = some b ∧
    Below k w ((w1.setCell ⟨k, 0, none⟩ a).setCell ⟨k, 1, none⟩ b) := by
  have := Blk.two ((h.set 0 a).set 1 b)
  exact ⟨this.1, this.2.1, hb.trans ((((Only.refl (fun j => j = k) w1).put (ad := ⟨k, 0, none⟩) rfl a).put (ad := ⟨k, 1, none⟩) rfl b).below (fun j hj => by rw [hj]; exact Nat.le_refl _) hz)⟩
set_option maxRecDepth 100000 in
theorem poss_any (x n : Int) (hn0 : -10 ≤ n) (hn1 : n ≤ 3000000) (w : World) :
    Calls Try.prog 38 #[am x n] w (vPost w (.bool (decide (posB x n)))) := by
  have HP : Hid (posB x n ↔ (0 ≤ n ∧ 65 * n ≤ x ∧ x ≤ 67000 * n)) := Iff.rfl
  unfold am
  obtain ⟨v, hv⟩ : ∃ v, v = w.alloc (.cells #[.int .i64 x, .int .i64 n] 50) := ⟨_, rfl⟩
  have HB : Hid (Below w.heap.size w v) := by show Below _ _ _; rw [hv]; exact bnew _ _
  obtain ⟨P, hP⟩ : ∃ P, P = vPost w (.bool (decide (posB x n))) := ⟨_, rfl⟩
  have HQ : Hid (∀ b, (b = true ↔ posB x n) → P (.returned (.bool b)) v) := by
    show ∀ b, _
    intro b hb
    rw [hP]; exact ⟨retB (by rw [Bool.eq_iff_iff, hb]; simp), HB.out⟩
  rw [← hP]
  clear hP
  by_cases k0 : n ≥ 0
  case neg =>
    have HE := Lib.hid (HQ.out false (by rw [HP.out]; simp; omega))
    go_enter Try.func38, Try.ntmps38
    go_wp2_with fail
    rw [← hv]
    exact HE.out
  by_cases k1 : x ≥ 65 * n
  case neg =>
    have HE := Lib.hid (HQ.out false (by rw [HP.out]; simp; omega))
    go_enter Try.func38, Try.ntmps38
    go_wp2_with fail
    rw [← hv]
    exact HE.out
  by_cases k2 : x ≤ 67000 * n
  case neg =>
    have HE := Lib.hid (HQ.out false (by rw [HP.out]; simp; omega))
    go_enter Try.func38, Try.ntmps38
    go_wp2_with fail
    rw [← hv]
    exact HE.out
  have HE := Lib.hid (HQ.out true (by rw [HP.out]; simp; omega))
  go_enter Try.func38, Try.ntmps38
  go_wp2_with fail
  rw [← hv]
  exact HE.out
set_option maxRecDepth 100000 in
theorem with_any (x n c : Int) (hx0 : 0 ≤ x) (hx1 : x ≤ 1000000000000) (hn0 : 0 ≤ n) (hn1 : n ≤ 3000000) (hc0 : 0 ≤ c) (hc1 : c ≤ 100000) (w : World) :
    Calls Try.prog 33 #[am x n, .int .i64 c] w (vPost w (am (x + c) (n + 1))) := by
  unfold am vPost
  obtain ⟨v9, hv9⟩ : ∃ v9, v9 = (w.alloc (.cells #[.int .i64 x, .int .i64 n] 50)).alloc (.cells #[.int .i64 (x + c), .int .i64 (n + 1)] 50) := ⟨_, rfl⟩
  have HB : Hid (Below w.heap.size w v9) := by show Below _ _ _; rw [hv9]; exact (bnew w _).alloc (by simp) _
  have HT : Hid (Blk v9 (w.heap.size + 1) #[.int .i64 (x + c), .int .i64 (n + 1)] 50) := by
    show Blk _ _ _ _; rw [hv9]
    have := Blk.new (w.alloc (.cells #[.int .i64 x, .int .i64 n] 50)) #[.int .i64 (x + c), .int .i64 (n + 1)] 50
    simpa using this
  go_enter Try.func33, Try.ntmps33
  go_wp2_with fail
  rw [← hv9]
  clear hv9
  obtain ⟨t0, t1, _⟩ := Blk.two HT.out
  exact bodyPost_ret (v := .agg #[.int .i64 (x + c), .int .i64 (n + 1)]) (by simp [results, Try.results33, go_sem, t0, t1]) rfl ⟨rfl, HB.out⟩
def woN (s : Ac) (c : Int) : Int := if ¬ isC c then 3 else if can s c then 0 else 9
def woX (s : Ac) (c : Int) : Int := if isC c ∧ can s c then s.x - c else 0
def woM (s : Ac) (c : Int) : Int := if isC c ∧ can s c then s.n - 1 else 0
set_option maxRecDepth 100000 in
theorem without_any (h : Ah F w g s) (c : Int) : Calls Try.prog 34 #[.pointer (some ⟨g, 0, none⟩), .int .i64 c] w (vPost w (.tuple #[am (woX s c) (woM s c), .int .i64 (woN s c)])) := by
  obtain ⟨v0, hv0⟩ : ∃ v0, v0 = w.alloc (.cells #[.int .i64 0, .int .i64 0] 50) := ⟨_, rfl⟩
  have b0 : Below w.heap.size w v0 := by rw [hv0]; exact bnew w _
  have R0 : Hid (Blk v0 w.heap.size #[.int .i64 0, .int .i64 0] 50) := by show Blk _ _ _ _; rw [hv0]; exact Blk.new w _ _
  have h0 := h.below b0 (Nat.le_refl _)
  have HU := Lib.hid (usable_any h0)
  have HB0 := Lib.hid b0
  obtain ⟨r0, r1, rf0, rf1⟩ := Blk.two R0.out
  have lr := R0.out.lt
  have BK : Blk v0 g (cells s) 52 := h0.bk
  obtain ⟨x0, x1, x2, x3, _⟩ := BK.four
  have lg := BK.lt
  have lw := h.lt
  obtain ⟨⟨hb1, hb2, he1, he2⟩, hn0, hn1, hlo, hhi⟩ := h.ok
  obtain ⟨b, e, x, n⟩ := s
  simp only at hb1 hb2 he1 he2 hn0 hn1 hlo hhi x0 x1 x2 x3
  by_cases hc : isC c
  case neg =>
    have HI := Lib.hid (iscost_no hc)
    have e1 : woX ⟨b, e, x, n⟩ c = 0 := if_neg (fun q => hc q.1)
    have e2 : woM ⟨b, e, x, n⟩ c = 0 := if_neg (fun q => hc q.1)
    have e3 : woN ⟨b, e, x, n⟩ c = 3 := if_pos hc
    rw [e1, e2, e3]
    clear hc e1 e2 e3 b0 h0 h BK
    unfold vPost am
    go_enter Try.func34, Try.ntmps34
    go_wp2_with fail
    rw [← hv0]
    clear hv0
    refine HU.out.mono ?_
    rintro q w1 ⟨rfl, rfl⟩
    go_wp2_with fail
    refine (HI.out w1).mono ?_
    rintro q w2 ⟨rfl, rfl⟩
    go_wp2_with fail
    obtain ⟨t0, t1, t2⟩ := put2 R0.out HB0.out HB0.out.size (.int .i64 0) (.int .i64 0)
    exact bodyPost_ret (v := .tuple #[.agg #[.int .i64 0, .int .i64 0], .int .i64 3]) (by simp [results, Try.results34, go_sem, t0, t1]) rfl ⟨rfl, t2⟩
  have HI := Lib.hid (iscost_yes hc)
  have HC : Hid (can ⟨b, e, x, n⟩ c ↔ posB (x - c) (n - 1)) := by
    show _ ↔ _
    unfold can posB
    simp only
    omega
  have HQ := Lib.hid (poss_any (x - c) (n - 1) (by omega) (by omega))
  obtain ⟨hc1, hc2⟩ := hc
  clear b0 h0 h BK
  unfold vPost am at HQ ⊢
  go_enter Try.func34, Try.ntmps34
  go_wp2_with fail
  rw [← hv0]
  clear hv0
  refine HU.out.mono ?_
  rintro q w1 ⟨rfl, rfl⟩
  go_wp2_with fail
  refine (HI.out w1).mono ?_
  rintro q w2 ⟨rfl, rfl⟩
  go_wp2_with fail
  go_region
  obtain ⟨v, hv⟩ : ∃ v, v = (w2.alloc (.cells #[.int .i64 (x - c), .int .i64 (n - 1)] 50)).drew := ⟨_, rfl⟩
  have b2 : Below w2.heap.size w2 v := by rw [hv]; exact (bnew w2 _).drew
  have S0 : Hid (Blk v w2.heap.size #[.int .i64 (x - c), .int .i64 (n - 1)] 50) := by show Blk _ _ _ _; rw [hv]; exact (Blk.new w2 _ _).drewN 1
  have R1 := Lib.hid (R0.out.below b2 lr)
  have HB1 : Hid (Below w.heap.size w v) := HB0.out.trans (b2.mono HB0.out.size)
  obtain ⟨s0, s1, _⟩ := S0.out.two
  have ls := S0.out.lt
  rw [← hv]
  clear hv b2 x0 x1 x2 x3 r0 r1 rf0 rf1
  go_wp2_with fail
  refine (HQ.out v).mono ?_
  rintro q w3 ⟨rfl, hb3⟩
  have S3 := Lib.hid (S0.out.below hb3 ls)
  have R3 := Lib.hid (R1.out.below hb3 (Nat.lt_of_lt_of_le lr (by have := S0.out.lt; omega)))
  have HB3 : Hid (Below w.heap.size w w3) := HB1.out.trans (hb3.mono HB1.out.size)
  obtain ⟨s0, s1, _⟩ := S3.out.two
  obtain ⟨r0, r1, rf0, rf1⟩ := R3.out.two
  have ls := S3.out.lt
  have lr := R3.out.lt
  clear hb3
  by_cases hp : posB (x - c) (n - 1)
  · rw [decide_eq_true hp]
    have hk := HC.out.2 hp
    have e1 : woX ⟨b, e, x, n⟩ c = x - c := if_pos ⟨⟨hc1, hc2⟩, hk⟩
    have e2 : woM ⟨b, e, x, n⟩ c = n - 1 := if_pos ⟨⟨hc1, hc2⟩, hk⟩
    have e3 : woN ⟨b, e, x, n⟩ c = 0 := by unfold woN; rw [if_neg (fun q => q ⟨hc1, hc2⟩), if_pos hk]
    have E1 := Lib.hid e1
    have E2 := Lib.hid e2
    have E3 := Lib.hid e3
    clear e1 e2 e3 hk hp
    go_wp2_with fail
    obtain ⟨t0, t1, t2⟩ := put2 R3.out HB3.out HB3.out.size (.int .i64 (x - c)) (.int .i64 (n - 1))
    exact bodyPost_ret (v := .tuple #[.agg #[.int .i64 (x - c), .int .i64 (n - 1)], .int .i64 0]) (by simp [results, Try.results34, go_sem, t0, t1]) rfl ⟨by rw [E1.out, E2.out, E3.out], t2⟩
  · rw [decide_eq_false hp]
    have hk : ¬ can ⟨b, e, x, n⟩ c := fun q => hp (HC.out.1 q)
    have e1 : woX ⟨b, e, x, n⟩ c = 0 := if_neg (fun q => hk q.2)
    have e2 : woM ⟨b, e, x, n⟩ c = 0 := if_neg (fun q => hk q.2)
    have e3 : woN ⟨b, e, x, n⟩ c = 9 := by unfold woN; rw [if_neg (fun q => q ⟨hc1, hc2⟩), if_neg hk]
    have E1 := Lib.hid e1
    have E2 := Lib.hid e2
    have E3 := Lib.hid e3
    clear e1 e2 e3 hk hp
    go_wp2_with fail
    obtain ⟨t0, t1, t2⟩ := put2 R3.out HB3.out HB3.out.size (.int .i64 0) (.int .i64 0)
    exact bodyPost_ret (v := .tuple #[.agg #[.int .i64 0, .int .i64 0], .int .i64 9]) (by simp [results, Try.results34, go_sem, t0, t1]) rfl ⟨by rw [E1.out, E2.out, E3.out], t2⟩
set_option maxRecDepth 100000 in
theorem new_yes {b e : Int} (h : bud b e) (w : World) : Calls Try.prog 11 #[.int .i64 b, .int .i64 e] w (newPost w ⟨b, e, 0, 0⟩) := by
  obtain ⟨h1, h2, h3, h4⟩ := h
  have k1 : ¬ b < 1 := by omega
  have k2 : ¬ b > 1099511627776 := by omega
  have k3 : ¬ e < 1 := by omega
  have k4 : ¬ e > 1048576 := by omega
  obtain ⟨v9, hv9⟩ : ∃ v9, v9 = w.alloc (.cells #[.int .i64 b, .int .i64 e, .int .i64 0, .int .i64 0] 52) := ⟨_, rfl⟩
  have HE : Hid (newPost w ⟨b, e, 0, 0⟩ (.returned (.tuple #[.pointer (some ⟨w.heap.size, 0, none⟩), .int .i64 0])) v9) := by
    refine ⟨w.heap.size, rfl, ⟨?_, Nat.le_refl _, ok_new ⟨h1, h2, h3, h4⟩⟩, ?_⟩
    · rw [hv9]; exact Blk.new _ _ _
    · rw [hv9]; exact bnew _ _
  obtain ⟨P, hP⟩ : ∃ P, P = newPost w ⟨b, e, 0, 0⟩ := ⟨_, rfl⟩
  rw [← hP] at HE ⊢
  clear hP
  go_enter Try.func11, Try.ntmps11
  go_wp2_with fail
  rw [← hv9]
  clear hv9
  exact HE.out
set_option maxRecDepth 100000 in
theorem new_no {b e : Int} (h : ¬ bud b e) (w : World) : Calls Try.prog 11 #[.int .i64 b, .int .i64 e] w (vPost w (.tuple #[.pointer none, .int .i64 2])) := by
  have HE : Hid (vPost w (.tuple #[.pointer none, .int .i64 2]) (.returned (.tuple #[.pointer none, .int .i64 2])) w) := ⟨rfl, Below.refl _ _⟩
  obtain ⟨P, hP⟩ : ∃ P, P = vPost w (.tuple #[.pointer none, .int .i64 2]) := ⟨_, rfl⟩
  rw [← hP] at HE ⊢
  clear hP
  by_cases k1 : b < 1
  case pos =>
    clear h
    go_enter Try.func11, Try.ntmps11
    go_wp2_with fail
    exact HE.out
  have m1 : 1 ≤ b := by omega
  by_cases k2 : b > 1099511627776
  case pos =>
    clear h
    go_enter Try.func11, Try.ntmps11
    go_wp2_with fail
    exact HE.out
  have m2 : b ≤ 1099511627776 := by omega
  by_cases k3 : e < 1
  case pos =>
    clear h
    go_enter Try.func11, Try.ntmps11
    go_wp2_with fail
    exact HE.out
  have m3 : 1 ≤ e := by omega
  have k4 : e > 1048576 := by
    rcases Int.lt_or_le 1048576 e with q | q
    · exact q
    · exact absurd ⟨m1, m2, m3, q⟩ h
  clear h
  go_enter Try.func11, Try.ntmps11
  go_wp2_with fail
  exact HE.out
theorem same_post {v : World} {T : Ac} {N n : Int} (h : Ah F w g s) (hv : Below w.heap.size w v) (eT : T = s) (eN : N = n) : wrPost F w g T (.int .i64 N) (.returned (.int .i64 n)) v := by
  subst eT; subst eN
  exact ⟨rfl, (h.below hv (Nat.le_refl _)).mono (fun _ _ hf => Or.inl hf), Only.of_below hv (Nat.le_refl _) _⟩
theorem put_post {v : World} {T : Ac} {N x n : Int} (h : Ah F w g s) (hv : Below w.heap.size w v) (hT : Ok T) (eT : T = { s with x := x, n := n }) (eN : N = 0) :
    wrPost F w g T (.int .i64 N) (.returned (.int .i64 0)) ((v.setCell ⟨g, 2, none⟩ (.int .i64 x)).setCell ⟨g, 3, none⟩ (.int .i64 n)) := by
  have hb := h.bk.below hv h.lt
  have ho : Only F v ((v.setCell ⟨g, 2, none⟩ (.int .i64 x)).setCell ⟨g, 3, none⟩ (.int .i64 n)) := (only_own h.inF _).put (ad := ⟨g, 3, none⟩) h.inF _
  refine ⟨by rw [eN], ⟨?_, Or.inl h.inF, hT⟩, (Only.of_below hv (Nat.le_refl _) F).trans (ho.mono (fun _ _ hj => Or.inl hj))⟩
  rw [eT]
  have := (hb.set 2 (.int .i64 x)).set 3 (.int .i64 n)
  exact this
theorem wr_alloc {v : World} {T : Ac} {V : Value} {q : Ending} (h : wrPost F w g T V q v) (o : Obj) : wrPost F w g T V q (v.alloc o) :=
  ⟨h.1, h.2.1.below (bnew v o) (Nat.le_refl _), h.2.2.trans (Only.of_below (bnew v o) (Nat.le_refl _) _)⟩
set_option maxRecDepth 100000 in
theorem add_any (h : Ah F w g s) (c : Int) : Calls Try.prog 14 #[.pointer (some ⟨g, 0, none⟩), .int .i64 c] w (wrPost F w g (addT s c) (.int .i64 (addN s c))) := by
  have HU := Lib.hid (usable_any h)
  by_cases hc : isC c
  case neg =>
    have HE : Hid (∀ v, Below w.heap.size w v → wrPost F w g (addT s c) (.int .i64 (addN s c)) (.returned (.int .i64 3)) v) := fun v hv => same_post h hv (if_neg (fun q => hc q.1)) (if_pos hc)
    obtain ⟨P, hP⟩ : ∃ P, P = wrPost F w g (addT s c) (.int .i64 (addN s c)) := ⟨_, rfl⟩
    rw [← hP] at HE ⊢
    clear hP
    have HI := Lib.hid (iscost_no hc)
    clear hc h
    go_enter Try.func14, Try.ntmps14
    go_wp2_with fail
    refine HU.out.mono ?_
    rintro q w0 ⟨rfl, rfl⟩
    go_wp2_with fail
    refine (HI.out _).mono ?_
    rintro q w9 ⟨rfl, rfl⟩
    go_wp2_with fail
    exact HE.out _ (Below.refl _ _)
  have HI := Lib.hid (iscost_yes hc)
  by_cases hf : 2097152 ≤ s.n
  case pos =>
    have HE : Hid (∀ v, Below w.heap.size w v → wrPost F w g (addT s c) (.int .i64 (addN s c)) (.returned (.int .i64 7)) v) := fun v hv => same_post h hv (if_neg (fun q => by have := q.2; omega)) (by unfold addN; rw [if_neg (by simpa using hc), if_pos hf])
    obtain ⟨P, hP⟩ : ∃ P, P = wrPost F w g (addT s c) (.int .i64 (addN s c)) := ⟨_, rfl⟩
    rw [← hP] at HE ⊢
    clear hP
    clear hc
    obtain ⟨b, e, x, n⟩ := s
    obtain ⟨⟨hb1, hb2, he1, he2⟩, hn0, hn1, hlo, hhi⟩ := h.ok
    simp only at hb1 hb2 he1 he2 hn0 hn1 hlo hhi
    have BK : Blk w g #[.int .i64 b, .int .i64 e, .int .i64 x, .int .i64 n] 52 := h.bk
    obtain ⟨x0, x1, x2, x3, xf0, xf1, xf2, xf3⟩ := BK.four
    have lg := BK.lt
    clear BK
    simp only at hf
    have hq : (n == 2097152) = true := by rw [beq_iff_eq]; omega
    clear h hf
    go_enter Try.func14, Try.ntmps14
    go_wp2_with fail
    refine HU.out.mono ?_
    rintro q w0 ⟨rfl, rfl⟩
    go_wp2_with fail
    refine (HI.out _).mono ?_
    rintro q w9 ⟨rfl, rfl⟩
    go_wp2_with fail
    exact HE.out _ (Below.refl _ _)
  have HE : Hid (∀ v, Below w.heap.size w v → wrPost F w g (addT s c) (.int .i64 (addN s c)) (.returned (.int .i64 0)) ((v.setCell ⟨g, 2, none⟩ (.int .i64 (s.x + c))).setCell ⟨g, 3, none⟩ (.int .i64 (s.n + 1)))) := fun v hv => put_post h hv (h.ok.add c) (if_pos ⟨hc, by omega⟩) (by unfold addN; rw [if_neg (by simpa using hc), if_neg hf])
  obtain ⟨P, hP⟩ : ∃ P, P = wrPost F w g (addT s c) (.int .i64 (addN s c)) := ⟨_, rfl⟩
  rw [← hP] at HE ⊢
  clear hP
  have HG := Lib.hid h
  obtain ⟨b, e, x, n⟩ := s
  obtain ⟨⟨hb1, hb2, he1, he2⟩, hn0, hn1, hlo, hhi⟩ := h.ok
  simp only at hb1 hb2 he1 he2 hn0 hn1 hlo hhi
  unfold isC at hc
  simp only at hf HE
  have hq : (n == 2097152) = false := by rw [beq_eq_false_iff_ne]; omega
  have HW := Lib.hid (with_any x n c (by omega) (by omega) (by omega) (by omega) (by omega) (by omega) w)
  unfold vPost am at HW
  have BK : Blk w g #[.int .i64 b, .int .i64 e, .int .i64 x, .int .i64 n] 52 := h.bk
  obtain ⟨x0, x1, x2, x3, xf0, xf1, xf2, xf3⟩ := BK.four
  have lg := BK.lt
  clear BK
  clear h hf
  go_enter Try.func14, Try.ntmps14
  go_wp2_with fail
  refine HU.out.mono ?_
  rintro q w0 ⟨rfl, rfl⟩
  go_wp2_with fail
  refine (HI.out _).mono ?_
  rintro q w9 ⟨rfl, rfl⟩
  go_wp2_with fail
  refine HW.out.mono ?_
  rintro q v ⟨rfl, hb⟩
  have HV := Lib.hid hb
  clear hb
  have BK : Blk v g #[.int .i64 b, .int .i64 e, .int .i64 x, .int .i64 n] 52 := HG.out.bk.below HV.out HG.out.lt
  obtain ⟨x0, x1, x2, x3, xf0, xf1, xf2, xf3⟩ := BK.four
  have lg := BK.lt
  clear BK
  go_wp2_with fail
  exact HE.out _ HV.out
theorem wo_cases (s : Ac) (c : Int) : (woN s c = 3 ∧ ¬ isC c) ∨ (woN s c = 9 ∧ isC c ∧ ¬ can s c) ∨ (woN s c = 0 ∧ woX s c = s.x - c ∧ woM s c = s.n - 1 ∧ isC c ∧ can s c) := by
  by_cases hc : isC c
  · by_cases hk : can s c
    · exact Or.inr (Or.inr ⟨by unfold woN; rw [if_neg (by simpa using hc), if_pos hk], if_pos ⟨hc, hk⟩, if_pos ⟨hc, hk⟩, hc, hk⟩)
    · exact Or.inr (Or.inl ⟨by unfold woN; rw [if_neg (by simpa using hc), if_neg hk], hc, hk⟩)
  · exact Or.inl ⟨if_pos hc, hc⟩
set_option maxRecDepth 100000 in
theorem rem_any (h : Ah F w g s) (c : Int) : Calls Try.prog 16 #[.pointer (some ⟨g, 0, none⟩), .int .i64 c] w (wrPost F w g (remT s c) (.int .i64 (remN s c))) := by
  have HW := Lib.hid (without_any h c)
  unfold vPost am at HW
  have HX : Hid (Ah F w g s) := h
  rcases wo_cases s c with ⟨e0, hc⟩ | ⟨e0, hc, hk⟩ | ⟨e0, e1, e2, hc, hk⟩
  · have HE : Hid (∀ v, Below w.heap.size w v → wrPost F w g (remT s c) (.int .i64 (remN s c)) (.returned (.int .i64 3)) v) := fun v hv => same_post h hv (if_neg (fun q => hc q.1)) (if_pos hc)
    obtain ⟨P, hP⟩ : ∃ P, P = wrPost F w g (remT s c) (.int .i64 (remN s c)) := ⟨_, rfl⟩
    rw [← hP] at HE ⊢
    clear hP
    rw [e0] at HW
    generalize woX s c = a at HW
    generalize woM s c = d at HW
    clear e0 hc h
    go_enter Try.func16, Try.ntmps16
    go_wp2_with fail
    refine HW.out.mono ?_
    rintro q w1 ⟨rfl, hb⟩
    have HB := Lib.hid hb
    clear hb
    go_wp2_with fail
    exact HE.out _ (HB.out.trans ((bnew w1 _).mono HB.out.size))
  · have HE : Hid (∀ v, Below w.heap.size w v → wrPost F w g (remT s c) (.int .i64 (remN s c)) (.returned (.int .i64 9)) v) := fun v hv => same_post h hv (if_neg (fun q => hk q.2)) (by unfold remN; rw [if_neg (by simpa using hc), if_neg hk])
    obtain ⟨P, hP⟩ : ∃ P, P = wrPost F w g (remT s c) (.int .i64 (remN s c)) := ⟨_, rfl⟩
    rw [← hP] at HE ⊢
    clear hP
    rw [e0] at HW
    generalize woX s c = a at HW
    generalize woM s c = d at HW
    clear e0 hc h hk
    go_enter Try.func16, Try.ntmps16
    go_wp2_with fail
    refine HW.out.mono ?_
    rintro q w1 ⟨rfl, hb⟩
    have HB := Lib.hid hb
    clear hb
    go_wp2_with fail
    exact HE.out _ (HB.out.trans ((bnew w1 _).mono HB.out.size))
  · have HE : Hid (∀ v o, Below w.heap.size w v → wrPost F w g (remT s c) (.int .i64 (remN s c)) (.returned (.int .i64 0)) (((v.setCell ⟨g, 2, none⟩ (.int .i64 (s.x - c))).setCell ⟨g, 3, none⟩ (.int .i64 (s.n - 1))).alloc o)) := fun v o hv => wr_alloc (put_post h hv (h.ok.rem c) (if_pos ⟨hc, hk⟩) (by unfold remN; rw [if_neg (by simpa using hc), if_pos hk])) o
    obtain ⟨P, hP⟩ : ∃ P, P = wrPost F w g (remT s c) (.int .i64 (remN s c)) := ⟨_, rfl⟩
    rw [← hP] at HE ⊢
    clear hP
    rw [e0, e1, e2] at HW
    obtain ⟨b, e, x, n⟩ := s
    obtain ⟨⟨hb1, hb2, he1, he2⟩, hn0, hn1, hlo, hhi⟩ := h.ok
    simp only at hb1 hb2 he1 he2 hn0 hn1 hlo hhi
    simp only at HE HW
    clear e0 e1 e2 hc hk h
    go_enter Try.func16, Try.ntmps16
    go_wp2_with fail
    refine HW.out.mono ?_
    rintro q w1 ⟨rfl, hb⟩
    have HB := Lib.hid hb
    clear hb
    have BK : Blk w1 g #[.int .i64 b, .int .i64 e, .int .i64 x, .int .i64 n] 52 := HX.out.bk.below HB.out HX.out.lt
    obtain ⟨x0, x1, x2, x3, xf0, xf1, xf2, xf3⟩ := BK.four
    have lg := BK.lt
    clear BK
    go_wp2_with (fail)
    exact HE.out _ _ HB.out
set_option maxRecDepth 100000 in
theorem chg_any (h : Ah F w g s) (c d : Int) : Calls Try.prog 18 #[.pointer (some ⟨g, 0, none⟩), .int .i64 c, .int .i64 d] w (wrPost F w g (chgT s c d) (.int .i64 (chgN s c d))) := by
  have HW := Lib.hid (without_any h c)
  unfold vPost am at HW
  have HX : Hid (Ah F w g s) := h
  have HWI : Hid (∀ v, Calls Try.prog 32 #[.int .i64 d] v fun q v2 => q = .returned (.bool (decide (isC d))) ∧ v2 = v) := iscost_any d
  rcases wo_cases s c with ⟨e0, hc⟩ | ⟨e0, hc, hk⟩ | ⟨e0, e1, e2, hc, hk⟩
  · have HE : Hid (∀ v, Below w.heap.size w v → wrPost F w g (chgT s c d) (.int .i64 (chgN s c d)) (.returned (.int .i64 3)) v) := fun v hv => same_post h hv (if_neg (fun q => hc q.1.1)) (if_pos (fun q => hc q.1))
    obtain ⟨P, hP⟩ : ∃ P, P = wrPost F w g (chgT s c d) (.int .i64 (chgN s c d)) := ⟨_, rfl⟩
    rw [← hP] at HE ⊢
    clear hP
    rw [e0] at HW
    generalize woX s c = a at HW
    generalize woM s c = m at HW
    clear e0 hc h
    by_cases hd : isC d
    · rw [decide_eq_true hd] at HWI
      clear hd
      go_enter Try.func18, Try.ntmps18
      go_wp2_with fail
      refine HW.out.mono ?_
      rintro q w1 ⟨rfl, hb⟩
      have HB := Lib.hid hb
      clear hb
      have HAL : Hid (∀ o, Below w.heap.size w (w1.alloc o)) := fun o => HB.out.trans ((bnew w1 o).mono HB.out.size)
      go_wp2_with fail
      refine (HWI.out _).mono ?_
      rintro q w9 ⟨rfl, rfl⟩
      go_wp2_with fail
      exact HE.out _ (HAL.out _)
    · rw [decide_eq_false hd] at HWI
      clear hd
      go_enter Try.func18, Try.ntmps18
      go_wp2_with fail
      refine HW.out.mono ?_
      rintro q w1 ⟨rfl, hb⟩
      have HB := Lib.hid hb
      clear hb
      have HAL : Hid (∀ o, Below w.heap.size w (w1.alloc o)) := fun o => HB.out.trans ((bnew w1 o).mono HB.out.size)
      go_wp2_with fail
      refine (HWI.out _).mono ?_
      rintro q w9 ⟨rfl, rfl⟩
      go_wp2_with fail
      exact HE.out _ (HAL.out _)
  · rw [e0] at HW
    generalize woX s c = a at HW
    generalize woM s c = m at HW
    by_cases hd : isC d
    · have HE : Hid (∀ v, Below w.heap.size w v → wrPost F w g (chgT s c d) (.int .i64 (chgN s c d)) (.returned (.int .i64 9)) v) := fun v hv => same_post h hv (if_neg (fun q => hk q.2)) (by unfold chgN; rw [if_neg (fun q => q ⟨hc, hd⟩), if_neg hk])
      obtain ⟨P, hP⟩ : ∃ P, P = wrPost F w g (chgT s c d) (.int .i64 (chgN s c d)) := ⟨_, rfl⟩
      rw [← hP] at HE ⊢
      clear hP
      rw [decide_eq_true hd] at HWI
      clear e0 hc hd hk h
      go_enter Try.func18, Try.ntmps18
      go_wp2_with fail
      refine HW.out.mono ?_
      rintro q w1 ⟨rfl, hb⟩
      have HB := Lib.hid hb
      clear hb
      have HAL : Hid (∀ o, Below w.heap.size w (w1.alloc o)) := fun o => HB.out.trans ((bnew w1 o).mono HB.out.size)
      go_wp2_with fail
      refine (HWI.out _).mono ?_
      rintro q w9 ⟨rfl, rfl⟩
      go_wp2_with fail
      exact HE.out _ (HAL.out _)
    · have HE : Hid (∀ v, Below w.heap.size w v → wrPost F w g (chgT s c d) (.int .i64 (chgN s c d)) (.returned (.int .i64 3)) v) := fun v hv => same_post h hv (if_neg (fun q => hk q.2)) (by unfold chgN; rw [if_pos (fun q => hd q.2)])
      obtain ⟨P, hP⟩ : ∃ P, P = wrPost F w g (chgT s c d) (.int .i64 (chgN s c d)) := ⟨_, rfl⟩
      rw [← hP] at HE ⊢
      clear hP
      rw [decide_eq_false hd] at HWI
      clear e0 hc hd hk h
      go_enter Try.func18, Try.ntmps18
      go_wp2_with fail
      refine HW.out.mono ?_
      rintro q w1 ⟨rfl, hb⟩
      have HB := Lib.hid hb
      clear hb
      have HAL : Hid (∀ o, Below w.heap.size w (w1.alloc o)) := fun o => HB.out.trans ((bnew w1 o).mono HB.out.size)
      go_wp2_with fail
      refine (HWI.out _).mono ?_
      rintro q w9 ⟨rfl, rfl⟩
      go_wp2_with fail
      exact HE.out _ (HAL.out _)
  · rw [e0, e1, e2] at HW
    by_cases hd : isC d
    · have HE : Hid (∀ v, Below w.heap.size w v → wrPost F w g (chgT s c d) (.int .i64 (chgN s c d)) (.returned (.int .i64 0)) ((v.setCell ⟨g, 2, none⟩ (.int .i64 (s.x - c + d))).setCell ⟨g, 3, none⟩ (.int .i64 (s.n)))) := fun v hv => put_post h hv (h.ok.chg c d) (if_pos ⟨⟨hc, hd⟩, hk⟩) (by unfold chgN; rw [if_neg (fun q => q ⟨hc, hd⟩), if_pos hk])
      obtain ⟨P, hP⟩ : ∃ P, P = wrPost F w g (chgT s c d) (.int .i64 (chgN s c d)) := ⟨_, rfl⟩
      rw [← hP] at HE ⊢
      clear hP
      rw [decide_eq_true hd] at HWI
      have hk2 : 0 ≤ s.x - c ∧ 1 ≤ s.n := by unfold can at hk; omega
      obtain ⟨b, e, x, n⟩ := s
      obtain ⟨⟨hb1, hb2, he1, he2⟩, hn0, hn1, hlo, hhi⟩ := h.ok
      simp only at hb1 hb2 he1 he2 hn0 hn1 hlo hhi
      simp only at HE HW hk2
      obtain ⟨hk3, hk4⟩ := hk2
      unfold isC at hc hd
      have HQ : Hid (∀ v, Calls Try.prog 33 #[am (x - c) (n - 1), .int .i64 d] v (vPost v (am (x - c + d) (n - 1 + 1)))) := fun v => with_any (x - c) (n - 1) d (by omega) (by omega) (by omega) (by omega) (by omega) (by omega) v
      unfold vPost am at HQ
      clear e0 e1 e2 hc hd hk h
      go_enter Try.func18, Try.ntmps18
      go_wp2_with fail
      refine HW.out.mono ?_
      rintro q w1 ⟨rfl, hb⟩
      have HB := Lib.hid hb
      clear hb
      have HAL : Hid (∀ o, Below w.heap.size w (w1.alloc o)) := fun o => HB.out.trans ((bnew w1 o).mono HB.out.size)
      go_wp2_with fail
      refine (HWI.out _).mono ?_
      rintro q w9 ⟨rfl, rfl⟩
      go_wp2_with fail
      refine (HQ.out _).mono ?_
      rintro q v ⟨rfl, hb2⟩
      have HV : Hid (Below w.heap.size w v) := (HAL.out _).trans (hb2.mono (HAL.out _).size)
      clear hb2
      have BK : Blk v g #[.int .i64 b, .int .i64 e, .int .i64 x, .int .i64 n] 52 := HX.out.bk.below HV.out HX.out.lt
      obtain ⟨x0, x1, x2, x3, xf0, xf1, xf2, xf3⟩ := BK.four
      have lg := BK.lt
      clear BK
      go_wp2_with fail
      exact HE.out _ HV.out
    · have HE : Hid (∀ v, Below w.heap.size w v → wrPost F w g (chgT s c d) (.int .i64 (chgN s c d)) (.returned (.int .i64 3)) v) := fun v hv => same_post h hv (if_neg (fun q => hd q.1.2)) (by unfold chgN; rw [if_pos (fun q => hd q.2)])
      obtain ⟨P, hP⟩ : ∃ P, P = wrPost F w g (chgT s c d) (.int .i64 (chgN s c d)) := ⟨_, rfl⟩
      rw [← hP] at HE ⊢
      clear hP
      rw [decide_eq_false hd] at HWI
      generalize s.x - c = a at HW
      generalize s.n - 1 = m at HW
      clear e0 e1 e2 hc hd hk h
      go_enter Try.func18, Try.ntmps18
      go_wp2_with fail
      refine HW.out.mono ?_
      rintro q w1 ⟨rfl, hb⟩
      have HB := Lib.hid hb
      clear hb
      have HAL : Hid (∀ o, Below w.heap.size w (w1.alloc o)) := fun o => HB.out.trans ((bnew w1 o).mono HB.out.size)
      go_wp2_with fail
      refine (HWI.out _).mono ?_
      rintro q w9 ⟨rfl, rfl⟩
      go_wp2_with fail
      exact HE.out _ (HAL.out _)
set_option maxRecDepth 100000 in
theorem fits_any (h : Ah F w g s) (c : Int) : Calls Try.prog 19 #[.pointer (some ⟨g, 0, none⟩), .int .i64 c] w (vPost w (.bool (fitB s c))) := by
  have HU := Lib.hid (usable_any h)
  by_cases hc : isC c
  case neg =>
    have HE : Hid (vPost w (.bool (fitB s c)) (.returned (.bool false)) w) := ⟨by rw [show fitB s c = false from by unfold fitB; simp [hc]], Below.refl _ _⟩
    obtain ⟨P, hP⟩ : ∃ P, P = vPost w (.bool (fitB s c)) := ⟨_, rfl⟩
    rw [← hP] at HE ⊢
    clear hP
    have HI := Lib.hid (iscost_no hc)
    clear hc
    go_enter Try.func19, Try.ntmps19
    go_wp2_with fail
    refine HU.out.mono ?_
    rintro q w0 ⟨rfl, rfl⟩
    go_wp2_with fail
    refine (HI.out _).mono ?_
    rintro q w9 ⟨rfl, rfl⟩
    go_wp2_with fail
    exact HE.out
  have HI := Lib.hid (iscost_yes hc)
  have HE : Hid (vPost w (.bool (fitB s c)) (.returned (.bool (decide (c ≤ s.b)))) w) := ⟨by rw [show fitB s c = (decide (c ≤ s.b)) from by unfold fitB; simp [hc]], Below.refl _ _⟩
  obtain ⟨P, hP⟩ : ∃ P, P = vPost w (.bool (fitB s c)) := ⟨_, rfl⟩
  rw [← hP] at HE ⊢
  clear hP
  clear hc
  obtain ⟨b, e, x, n⟩ := s
  obtain ⟨⟨hb1, hb2, he1, he2⟩, hn0, hn1, hlo, hhi⟩ := h.ok
  simp only at hb1 hb2 he1 he2 hn0 hn1 hlo hhi
  have BK : Blk w g #[.int .i64 b, .int .i64 e, .int .i64 x, .int .i64 n] 52 := h.bk
  obtain ⟨x0, x1, x2, x3, xf0, xf1, xf2, xf3⟩ := BK.four
  have lg := BK.lt
  clear BK
  clear h
  go_enter Try.func19, Try.ntmps19
  go_wp2_with fail
  refine HU.out.mono ?_
  rintro q w0 ⟨rfl, rfl⟩
  go_wp2_with fail
  refine (HI.out _).mono ?_
  rintro q w9 ⟨rfl, rfl⟩
  go_wp2_with fail
  exact HE.out
set_option maxRecDepth 100000 in
theorem over_any (h : Ah F w g s) : Calls Try.prog 35 #[.pointer (some ⟨g, 0, none⟩)] w (vPost w (.tuple #[.int .i64 (ovB s), .int .i64 (ovE s)])) := by
  have HU := Lib.hid (usable_any h)
  unfold vPost
  obtain ⟨b, e, x, n⟩ := s
  obtain ⟨⟨hb1, hb2, he1, he2⟩, hn0, hn1, hlo, hhi⟩ := h.ok
  simp only at hb1 hb2 he1 he2 hn0 hn1 hlo hhi
  have BK : Blk w g #[.int .i64 b, .int .i64 e, .int .i64 x, .int .i64 n] 52 := h.bk
  obtain ⟨x0, x1, x2, x3, xf0, xf1, xf2, xf3⟩ := BK.four
  have lg := BK.lt
  clear BK
  unfold ovB ovE
  simp only
  clear h
  have HV : Hid (Below w.heap.size w w.drew) := (Below.refl _ _).drew
  go_enter Try.func35, Try.ntmps35
  go_wp2_with fail
  refine HU.out.mono ?_
  rintro q w0 ⟨rfl, rfl⟩
  go_wp2_with fail
  go_region
  all_goals
    go_wp2_with fail
  all_goals
    go_ret2
    refine ⟨?_, HV.out⟩
    simp <;> omega
set_option maxRecDepth 100000 in
theorem used_any (h : Ah F w g s) : Calls Try.prog 26 #[.pointer (some ⟨g, 0, none⟩)] w (vPost w (.tuple #[.int .i64 s.x, .int .i64 s.n])) := by
  have HU := Lib.hid (usable_any h)
  unfold vPost
  obtain ⟨b, e, x, n⟩ := s
  obtain ⟨⟨hb1, hb2, he1, he2⟩, hn0, hn1, hlo, hhi⟩ := h.ok
  simp only at hb1 hb2 he1 he2 hn0 hn1 hlo hhi
  have BK : Blk w g #[.int .i64 b, .int .i64 e, .int .i64 x, .int .i64 n] 52 := h.bk
  obtain ⟨x0, x1, x2, x3, xf0, xf1, xf2, xf3⟩ := BK.four
  have lg := BK.lt
  clear BK
  clear h
  have HV : Hid (Below w.heap.size w w.drew) := (Below.refl _ _).drew
  go_enter Try.func26, Try.ntmps26
  go_wp2_with fail
  refine HU.out.mono ?_
  rintro q w0 ⟨rfl, rfl⟩
  go_wp2_with fail
  go_region
  go_wp2_with fail
  go_ret2
  exact ⟨rfl, HV.out⟩
set_option maxRecDepth 100000 in
theorem budget_any (h : Ah F w g s) : Calls Try.prog 36 #[.pointer (some ⟨g, 0, none⟩)] w (vPost w (.tuple #[.int .i64 s.b, .int .i64 s.e])) := by
  have HU := Lib.hid (usable_any h)
  unfold vPost
  obtain ⟨b, e, x, n⟩ := s
  obtain ⟨⟨hb1, hb2, he1, he2⟩, hn0, hn1, hlo, hhi⟩ := h.ok
  simp only at hb1 hb2 he1 he2 hn0 hn1 hlo hhi
  have BK : Blk w g #[.int .i64 b, .int .i64 e, .int .i64 x, .int .i64 n] 52 := h.bk
  obtain ⟨x0, x1, x2, x3, xf0, xf1, xf2, xf3⟩ := BK.four
  have lg := BK.lt
  clear BK
  clear h
  have HV : Hid (Below w.heap.size w w.drew) := (Below.refl _ _).drew
  go_enter Try.func36, Try.ntmps36
  go_wp2_with fail
  refine HU.out.mono ?_
  rintro q w0 ⟨rfl, rfl⟩
  go_wp2_with fail
  go_region
  go_wp2_with fail
  go_ret2
  exact ⟨rfl, HV.out⟩
set_option maxRecDepth 100000 in
theorem copy_any (h : Ah F w g s) : Calls Try.prog 21 #[.pointer (some ⟨g, 0, none⟩)] w (mkPost w s) := by
  have HU := Lib.hid (usable_any h)
  have HOK : Hid (Ok s) := h.ok
  obtain ⟨v9, hv9⟩ : ∃ v9, v9 = w.alloc (.cells #[.int .i64 s.b, .int .i64 s.e, .int .i64 s.x, .int .i64 s.n] 52) := ⟨_, rfl⟩
  have HE : Hid (mkPost w s (.returned (.pointer (some ⟨w.heap.size, 0, none⟩))) v9) := by
    refine ⟨w.heap.size, rfl, ⟨?_, Nat.le_refl _, HOK.out⟩, ?_⟩
    · rw [hv9]; exact Blk.new _ _ _
    · rw [hv9]; exact bnew _ _
  obtain ⟨P, hP⟩ : ∃ P, P = mkPost w s := ⟨_, rfl⟩
  rw [← hP] at HE ⊢
  clear hP
  have BK : Blk w g #[.int .i64 s.b, .int .i64 s.e, .int .i64 s.x, .int .i64 s.n] 52 := h.bk
  obtain ⟨x0, x1, x2, x3, _⟩ := BK.four
  have lg := BK.lt
  clear BK h
  go_enter Try.func21, Try.ntmps21
  go_wp2_with fail
  refine HU.out.mono ?_
  rintro q w0 ⟨rfl, rfl⟩
  go_wp2_with fail
  rw [← hv9]
  clear hv9
  exact HE.out
end
/-- The cells of a zero account. -/
def zeroC : Array Value := #[.int .i64 0, .int .i64 0, .int .i64 0, .int .i64 0]
/-- A nil or zero account. -/
def Idle (w : World) (p : Option Addr) : Prop := p = none ∨ ∃ g, p = some ⟨g, 0, none⟩ ∧ Blk w g zeroC 52
theorem Idle.below {w w' : World} {p : Option Addr} (h : Idle w p) (hb : Below w.heap.size w w') : Idle w' p := by
  rcases h with h | ⟨g, h, h1⟩
  · exact Or.inl h
  · exact Or.inr ⟨g, h, h1.below hb h1.lt⟩
section
variable {w : World} {p : Option Addr}
set_option maxRecDepth 100000 in
theorem usable_idle (h : Idle w p) : Calls Try.prog 31 #[.pointer p] w fun q w' => q = .returned (.bool false) ∧ w' = w := by
  rcases h with rfl | ⟨g, rfl, hb⟩
  · go_enter Try.func31, Try.ntmps31
    go_wp2_with fail
    go_ret
    exact ⟨rfl, rfl⟩
  · unfold zeroC at hb
    obtain ⟨x0, x1, x2, x3, _⟩ := hb.four
    have lg := hb.lt
    clear hb
    go_enter Try.func31, Try.ntmps31
    go_wp2_with fail
    go_ret
    exact ⟨rfl, rfl⟩
set_option maxRecDepth 100000 in
theorem without_idle (h : Idle w p) (c : Int) : Calls Try.prog 34 #[.pointer p, .int .i64 c] w (vPost w (.tuple #[am 0 0, .int .i64 1])) := by
  obtain ⟨v0, hv0⟩ : ∃ v0, v0 = w.alloc (.cells #[.int .i64 0, .int .i64 0] 50) := ⟨_, rfl⟩
  have b0 : Below w.heap.size w v0 := by rw [hv0]; exact bnew w _
  have R0 : Hid (Blk v0 w.heap.size #[.int .i64 0, .int .i64 0] 50) := by show Blk _ _ _ _; rw [hv0]; exact Blk.new w _ _
  have HU := Lib.hid (usable_idle (h.below b0))
  have HB0 := Lib.hid b0
  obtain ⟨r0, r1, rf0, rf1⟩ := Blk.two R0.out
  have lr := R0.out.lt
  unfold vPost am
  clear h b0
  go_enter Try.func34, Try.ntmps34
  go_wp2_with fail
  rw [← hv0]
  clear hv0
  refine HU.out.mono ?_
  rintro q w1 ⟨rfl, rfl⟩
  go_wp2_with fail
  obtain ⟨t0, t1, t2⟩ := put2 R0.out HB0.out HB0.out.size (.int .i64 0) (.int .i64 0)
  exact bodyPost_ret (v := .tuple #[.agg #[.int .i64 0, .int .i64 0], .int .i64 1]) (by simp [results, Try.results34, go_sem, t0, t1]) rfl ⟨rfl, t2⟩
set_option maxRecDepth 100000 in
theorem add_idle (h : Idle w p) (c : Int) : Calls Try.prog 14 #[.pointer p, .int .i64 c] w (vPost w (.int .i64 1)) := by
  have HU := Lib.hid (usable_idle h)
  have HE : Hid (vPost w (.int .i64 1) (.returned (.int .i64 1)) w) := ⟨rfl, Below.refl _ _⟩
  obtain ⟨P, hP⟩ : ∃ P, P = vPost w (.int .i64 1) := ⟨_, rfl⟩
  rw [← hP] at HE ⊢
  clear hP
  clear h
  go_enter Try.func14, Try.ntmps14
  go_wp2_with fail
  refine HU.out.mono ?_
  rintro q w0 ⟨rfl, rfl⟩
  go_wp2_with fail
  exact HE.out
set_option maxRecDepth 100000 in
theorem fits_idle (h : Idle w p) (c : Int) : Calls Try.prog 19 #[.pointer p, .int .i64 c] w (vPost w (.bool false)) := by
  have HU := Lib.hid (usable_idle h)
  have HE : Hid (vPost w (.bool false) (.returned (.bool false)) w) := ⟨rfl, Below.refl _ _⟩
  obtain ⟨P, hP⟩ : ∃ P, P = vPost w (.bool false) := ⟨_, rfl⟩
  rw [← hP] at HE ⊢
  clear hP
  clear h
  go_enter Try.func19, Try.ntmps19
  go_wp2_with fail
  refine HU.out.mono ?_
  rintro q w0 ⟨rfl, rfl⟩
  go_wp2_with fail
  exact HE.out
set_option maxRecDepth 100000 in
theorem over_idle (h : Idle w p) : Calls Try.prog 35 #[.pointer p] w (vPost w (.tuple #[.int .i64 0, .int .i64 0])) := by
  have HU := Lib.hid (usable_idle h)
  have HE : Hid (vPost w (.tuple #[.int .i64 0, .int .i64 0]) (.returned (.tuple #[.int .i64 0, .int .i64 0])) w) := ⟨rfl, Below.refl _ _⟩
  obtain ⟨P, hP⟩ : ∃ P, P = vPost w (.tuple #[.int .i64 0, .int .i64 0]) := ⟨_, rfl⟩
  rw [← hP] at HE ⊢
  clear hP
  clear h
  go_enter Try.func35, Try.ntmps35
  go_wp2_with fail
  refine HU.out.mono ?_
  rintro q w0 ⟨rfl, rfl⟩
  go_wp2_with fail
  exact HE.out
set_option maxRecDepth 100000 in
theorem used_idle (h : Idle w p) : Calls Try.prog 26 #[.pointer p] w (vPost w (.tuple #[.int .i64 0, .int .i64 0])) := by
  have HU := Lib.hid (usable_idle h)
  have HE : Hid (vPost w (.tuple #[.int .i64 0, .int .i64 0]) (.returned (.tuple #[.int .i64 0, .int .i64 0])) w) := ⟨rfl, Below.refl _ _⟩
  obtain ⟨P, hP⟩ : ∃ P, P = vPost w (.tuple #[.int .i64 0, .int .i64 0]) := ⟨_, rfl⟩
  rw [← hP] at HE ⊢
  clear hP
  clear h
  go_enter Try.func26, Try.ntmps26
  go_wp2_with fail
  refine HU.out.mono ?_
  rintro q w0 ⟨rfl, rfl⟩
  go_wp2_with fail
  exact HE.out
set_option maxRecDepth 100000 in
theorem budget_idle (h : Idle w p) : Calls Try.prog 36 #[.pointer p] w (vPost w (.tuple #[.int .i64 0, .int .i64 0])) := by
  have HU := Lib.hid (usable_idle h)
  have HE : Hid (vPost w (.tuple #[.int .i64 0, .int .i64 0]) (.returned (.tuple #[.int .i64 0, .int .i64 0])) w) := ⟨rfl, Below.refl _ _⟩
  obtain ⟨P, hP⟩ : ∃ P, P = vPost w (.tuple #[.int .i64 0, .int .i64 0]) := ⟨_, rfl⟩
  rw [← hP] at HE ⊢
  clear hP
  clear h
  go_enter Try.func36, Try.ntmps36
  go_wp2_with fail
  refine HU.out.mono ?_
  rintro q w0 ⟨rfl, rfl⟩
  go_wp2_with fail
  exact HE.out
set_option maxRecDepth 100000 in
theorem copy_idle (h : Idle w p) : Calls Try.prog 21 #[.pointer p] w (vPost w (.pointer none)) := by
  have HU := Lib.hid (usable_idle h)
  have HE : Hid (vPost w (.pointer none) (.returned (.pointer none)) w) := ⟨rfl, Below.refl _ _⟩
  obtain ⟨P, hP⟩ : ∃ P, P = vPost w (.pointer none) := ⟨_, rfl⟩
  rw [← hP] at HE ⊢
  clear hP
  clear h
  go_enter Try.func21, Try.ntmps21
  go_wp2_with fail
  refine HU.out.mono ?_
  rintro q w0 ⟨rfl, rfl⟩
  go_wp2_with fail
  exact HE.out
set_option maxRecDepth 100000 in
theorem rem_idle (h : Idle w p) (c : Int) : Calls Try.prog 16 #[.pointer p, .int .i64 c] w (vPost w (.int .i64 1)) := by
  have HW := Lib.hid (without_idle h c)
  unfold vPost am at HW
  have HE : Hid (∀ v, Below w.heap.size w v → vPost w (.int .i64 1) (.returned (.int .i64 1)) v) := fun v hv => ⟨rfl, hv⟩
  obtain ⟨P, hP⟩ : ∃ P, P = vPost w (.int .i64 1) := ⟨_, rfl⟩
  rw [← hP] at HE ⊢
  clear hP
  clear h
  go_enter Try.func16, Try.ntmps16
  go_wp2_with fail
  refine HW.out.mono ?_
  rintro q w1 ⟨rfl, hb⟩
  have HB := Lib.hid hb
  clear hb
  go_wp2_with fail
  exact HE.out _ (HB.out.trans ((bnew w1 _).mono HB.out.size))
set_option maxRecDepth 100000 in
theorem chg_idle (h : Idle w p) (c d : Int) : Calls Try.prog 18 #[.pointer p, .int .i64 c, .int .i64 d] w (vPost w (.int .i64 1)) := by
  have HW := Lib.hid (without_idle h c)
  unfold vPost am at HW
  have HE : Hid (∀ v, Below w.heap.size w v → vPost w (.int .i64 1) (.returned (.int .i64 1)) v) := fun v hv => ⟨rfl, hv⟩
  obtain ⟨P, hP⟩ : ∃ P, P = vPost w (.int .i64 1) := ⟨_, rfl⟩
  rw [← hP] at HE ⊢
  clear hP
  clear h
  go_enter Try.func18, Try.ntmps18
  go_wp2_with fail
  refine HW.out.mono ?_
  rintro q w1 ⟨rfl, hb⟩
  have HB := Lib.hid hb
  clear hb
  go_wp2_with fail
  exact HE.out _ (HB.out.trans ((bnew w1 _).mono HB.out.size))
end
end Go.Proofs.Ytocfinhbocjbgaa.Je
