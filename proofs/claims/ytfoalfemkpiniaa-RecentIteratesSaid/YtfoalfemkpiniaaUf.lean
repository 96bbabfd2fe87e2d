/- Proves what the law's helpers oldest, next, looks and do return beside the specification's list. Conditions: as each theorem names them. -/
import Derived.Test.YtfoalfemkpiniaaUe
namespace Go.Proofs.Ytfoalfemkpiniaa.Uf
open Go.RowKit Ap Mi Nw Ua Ub Uc Ue

set_option maxRecDepth 100000 in
theorem oldest_is {F : Nat → Prop} {w : World} {g : Nat} {L : List Int} (h : Rc F w g L) :
    Calls Try.prog 20 #[.pointer (some ⟨g, 0, none⟩), .int .i64 (oldV L), .int .i64 (oldN L)] w (boolTo true w) := by
  have HO := Lib.hid (oldest_any h)
  unfold lkPost at HO
  unfold boolTo
  obtain ⟨x, hx⟩ : ∃ x, x = oldV L := ⟨_, rfl⟩
  obtain ⟨y, hy⟩ : ∃ y, y = oldN L := ⟨_, rfl⟩
  rw [← hx, ← hy] at HO ⊢
  have b1 : (x == x) = true := by simp
  have b2 : (y == y) = true := by simp
  clear h hx hy
  go_enter Try.func20, Try.ntmps20
  go_wp2_with fail
  refine HO.out.mono ?_
  rintro e w1 ⟨rfl, hb⟩
  have HB := Lib.hid hb
  clear hb
  go_wp2_with fail
  go_ret
  exact ⟨rfl, HB.out⟩
set_option maxRecDepth 100000 in
theorem next_is {F : Nat → Prop} {w : World} {g : Nat} {L : List Int} (h : Rc F w g L) (n x y : Int) (ex : nextV L n = x) (ey : nextN L n = y) :
    Calls Try.prog 17 #[.pointer (some ⟨g, 0, none⟩), .int .i64 n, .int .i64 x, .int .i64 y] w (boolTo true w) := by
  have HO := Lib.hid (next_any h n)
  unfold lkPost at HO
  unfold boolTo
  rw [ex, ey] at HO
  have b1 : (x == x) = true := by simp
  have b2 : (y == y) = true := by simp
  clear h ex ey
  go_enter Try.func17, Try.ntmps17
  go_wp2_with fail
  refine HO.out.mono ?_
  rintro e w1 ⟨rfl, hb⟩
  have HB := Lib.hid hb
  clear hb
  go_wp2_with fail
  go_ret
  exact ⟨rfl, HB.out⟩
/-- An order beside the specification's list, which lies elsewhere. -/
structure Bo (N : Nat) (F : Nat → Prop) (w : World) (g : Nat) (A : Option Addr) (c : Nat) (L : List Int) : Prop where
  rc : Rc F w g L
  li : Li w A L c
  lo : ∀ j, F j → N ≤ j
  ap : ∀ a, A = some a → ¬ F a.block
  sz : N ≤ w.heap.size
  bd : ∀ a, A = some a → a.block < w.heap.size
theorem Bo.below {N : Nat} {F : Nat → Prop} {w w' : World} {g : Nat} {A : Option Addr} {c : Nat} {L : List Int} (h : Bo N F w g A c L) (hb : Below w.heap.size w w') : Bo N F w' g A c L :=
  ⟨h.rc.below hb (Nat.le_refl _), h.li.below hb (Nat.le_refl _), h.lo, h.ap, Nat.le_trans h.sz hb.size, fun a ha => Nat.lt_of_lt_of_le (h.bd a ha) hb.size⟩
set_option maxRecDepth 100000 in
set_option maxHeartbeats 1000000 in
theorem looks_is {N : Nat} {F : Nat → Prop} {w : World} {g : Nat} {A : Option Addr} {c : Nat} {L : List Int} (h : Bo N F w g A c L) (n : Int) (hL : L.length ≤ 1000000) :
    Calls Try.prog 11 #[.pointer (some ⟨g, 0, none⟩), .slice A L.length c, .int .i64 n] w (boolTo true w) := by
  have HH := Lib.hid h
  have HO := Lib.hid (Ub.oldest_any h.li hL)
  have HA := Lib.hid (all_true (all_any h.rc) hL h.li)
  obtain ⟨x, hx⟩ : ∃ x, x = oldV L := ⟨_, rfl⟩
  obtain ⟨y, hy⟩ : ∃ y, y = oldN L := ⟨_, rfl⟩
  have HX := Lib.hid hx; have HY := Lib.hid hy
  unfold boolTo at HA ⊢
  rw [← hx, ← hy] at HO
  obtain ⟨z, hz⟩ : ∃ z, z = ixOf L n := ⟨_, rfl⟩
  have HZ := Lib.hid hz
  obtain ⟨q, hq⟩ : ∃ q, q = decide (n ∈ L) := ⟨_, rfl⟩
  have HQ := Lib.hid hq
  have hzq : decide (0 ≤ z) = q := by
    rw [hz, hq, decide_eq_decide]
    by_cases hm : n ∈ L
    · have := (ix_geq (l := L)).1 hm; simp [hm, this]
    · have := (ix_geq (l := L)).2 hm; simp [hm]; omega
  have g1 : (L.length : Int) ≤ 1000000 := by omega
  have hb1 : ((L.length : Int) == (L.length : Int)) = true := by simp
  have hb2 : (q == q) = true := by simp
  have hcap := Rs.max h.li
  clear h hx hy hz hq
  go_enter Try.func11, Try.ntmps11
  go_wp2_with fail
  refine HO.out.mono ?_
  rintro e w ⟨rfl, rfl⟩
  go_wp2_with fail
  refine HA.out.mono ?_
  rintro e w1 ⟨rfl, hbl⟩
  have HB1 := Lib.hid hbl
  have H1 := Lib.hid (HH.out.below hbl)
  have HLN := Lib.hid (len_any H1.out.rc)
  unfold lkPost at HLN
  clear hbl HA HO
  go_wp2_with fail
  refine HLN.out.mono ?_
  rintro e w2 ⟨rfl, hbl⟩
  have HB2 := Lib.hid (bstep HB1.out hbl)
  have H2 := Lib.hid (H1.out.below hbl)
  have HOL := Lib.hid (oldest_is H2.out.rc)
  unfold boolTo at HOL
  rw [← HX.out, ← HY.out] at HOL
  clear hbl HLN
  go_wp2_with fail
  refine HOL.out.mono ?_
  rintro e w3 ⟨rfl, hbl⟩
  have HB3 := Lib.hid (bstep HB2.out hbl)
  have H3 := Lib.hid (H2.out.below hbl)
  have HHS := Lib.hid (has_any H3.out.rc n)
  unfold lkPost at HHS
  rw [← HQ.out] at HHS
  clear hbl HOL
  go_wp2_with fail
  refine HHS.out.mono ?_
  rintro e w4 ⟨rfl, hbl⟩
  have HB4 := Lib.hid (bstep HB3.out hbl)
  have H4 := Lib.hid (H3.out.below hbl)
  have HAT := Lib.hid (at_any H4.out.li n (by omega))
  rw [← HZ.out] at HAT
  clear hbl HHS
  go_wp2_with fail
  refine HAT.out.mono ?_
  rintro e w5 ⟨rfl, rfl⟩
  go_wp2_with fail
  go_ret
  exact ⟨rfl, HB4.out⟩
theorem Bo.tight {N : Nat} {F : Nat → Prop} {w : World} {g : Nat} {A : Option Addr} {c : Nat} {L : List Int} (h : Bo N F w g A c L) : Bo N (fun j => F j ∧ j < w.heap.size) w g A c L :=
  ⟨h.rc.tight, h.li, fun j hj => h.lo j hj.1, fun a ha hf => h.ap a ha hf.1, h.sz, h.bd⟩
/-- The order moves on, the list is another one. -/
theorem Bo.step {N : Nat} {F : Nat → Prop} {w w1 w2 : World} {g : Nat} {A A' : Option Addr} {c c' : Nat} {L L' : List Int} (h : Bo N F w g A c L) (hb : Below w.heap.size w w1) (hl : Li w1 A' L' c') (hA : ∀ a, A' = some a → A = some a ∨ (w.heap.size ≤ a.block ∧ a.block < w1.heap.size))
    (hr : Rc (More (fun j => F j ∧ j < w.heap.size) w1) w2 g L') (ho : Only (fun j => F j ∧ j < w.heap.size) w1 w2) : Bo N (More (fun j => F j ∧ j < w.heap.size) w1) w2 g A' c' L' ∧ Below N w w2 ∧ Only F w w2 := by
  have hz := hb.size; have hz2 := ho.size
  have key : ∀ a, A' = some a → ¬ (F a.block ∧ a.block < w.heap.size) ∧ a.block < w1.heap.size := fun a ha => by
    rcases hA a ha with h1 | h1
    · exact ⟨fun hf => h.ap a h1 hf.1, Nat.lt_of_lt_of_le (h.bd a h1) hz⟩
    · exact ⟨fun hf => by omega, h1.2⟩
  have hsz := h.sz
  refine ⟨⟨hr, hl.only ho (fun a ha => (key a ha).1), fun j hj => ?_, fun a ha hf => ?_, by omega, fun a ha => Nat.lt_of_lt_of_le (key a ha).2 hz2⟩, ?_, (Only.of_below hb (Nat.le_refl _) F).trans (ho.mono fun _ _ hj => Or.inl hj.1)⟩
  · rcases hj with hj | hj
    · exact h.lo j hj.1
    · omega
  · rcases hf with hf | hf
    · exact (key a ha).1 hf
    · have := (key a ha).2; omega
  · exact (hb.mono hsz).trans (ho.below (fun j hj => h.lo j hj.1) (by omega))
/-- What a call makes of a list. -/
def stT (L : List Int) (a n : Int) : List Int := if a = 0 then addT L n else if a = 1 then useT L n else if a = 2 then remT L n else L
theorem wo_le (L : List Int) (n : Int) : (wo L n).length ≤ L.length := List.length_filter_le _ _
theorem wo_lt {L : List Int} {n : Int} (h : n ∈ L) : (wo L n).length + 1 ≤ L.length := by
  unfold wo
  rcases Nat.lt_or_ge (L.filter (fun x => decide (x ≠ n))).length L.length with h1 | h1
  · exact h1
  · have := (List.length_filter_eq_length_iff.1 (Nat.le_antisymm (List.length_filter_le _ _) h1)) n h
    simp at this
theorem stT_len (L : List Int) (a n : Int) : (stT L a n).length ≤ L.length + 1 := by
  unfold stT addT useT remT
  repeat' split
  all_goals first | (simp; done) | (have := wo_le L n; simp; omega)
/-- What do leaves. -/
def doPost (N : Nat) (F0 : Nat → Prop) (w : World) (A0 : Option Addr) (L : List Int) (a n : Int) : Ending → World → Prop := fun e w' => ∃ g A c F, e = .returned (.tuple #[.pointer (some ⟨g, 0, none⟩), .slice A (stT L a n).length c, .bool true]) ∧ Bo N F w' g A c (stT L a n) ∧ Below N w w' ∧ Only F0 w w' ∧ (∀ j, F j → F0 j ∨ w.heap.size ≤ j) ∧ ∀ a, A = some a → A0 = some a ∨ w.heap.size ≤ a.block
section
variable {N : Nat} {F : Nat → Prop} {w : World} {g : Nat} {A : Option Addr} {c : Nat} {L : List Int}
set_option maxRecDepth 100000 in
set_option maxHeartbeats 1000000 in
theorem do0 (h : Bo N F w g A c L) (hL : L.length ≤ 100000) (n : Int) :
    Calls Try.prog 10 #[.pointer (some ⟨g, 0, none⟩), .slice A L.length c, .agg #[.int .i64 0, .int .i64 n]] w (doPost N F w A L 0 n) := by
  have HST : Hid (stT L 0 n = addT L n) := rfl
  obtain ⟨v0, hv0⟩ : ∃ v0, v0 = w.alloc (.cells #[.int .i64 0, .int .i64 n] 28) := ⟨_, rfl⟩
  obtain ⟨b5, hb5⟩ : ∃ b5, b5 = w.heap.size := ⟨_, rfl⟩
  have b0 : Below w.heap.size w v0 := by rw [hv0]; exact bnew _ _
  have P5 : Hid (Blk v0 b5 #[.int .i64 0, .int .i64 n] 28) := by show Blk _ _ _ _; rw [hv0, hb5]; exact Blk.new _ _ _
  have H0 := Lib.hid (h.below b0)
  have HZ0 := Lib.hid b0.size
  have HB0 := Lib.hid (b0.mono h.sz)
  have HO0 := Lib.hid (Only.of_below b0 (Nat.le_refl _) F)
  have HT := Lib.hid (Ub.add_any H0.out.li n (by omega))
  unfold tabPost at HT
  have hcap := Rs.max h.li
  have g1 : (L.length : Int) ≤ 100000 := by omega
  obtain ⟨y0, y1, _⟩ := P5.out.two
  have hln : L.length ≤ 100000 := hL
  unfold doPost
  rw [HST.out]
  obtain ⟨e0, he0⟩ : ∃ e0, e0 = addN L n := ⟨_, rfl⟩
  have HE := Lib.hid he0
  obtain ⟨T, hT⟩ : ∃ T, T = addT L n := ⟨_, rfl⟩
  have HTT := Lib.hid hT
  rw [← he0, ← hT] at HT
  rw [← hT]
  have hbe : (e0 == e0) = true := by simp
  clear h b0 he0 hT HST
  go_enter Try.func10, Try.ntmps10
  go_wp2_with fail
  rw [← hv0, ← hb5]
  clear hv0 hb5
  go_wp2_with fail
  refine HT.out.mono ?_
  rintro e w1 ⟨A1, c1, rfl, hl, hb, hp⟩
  have H1 := Lib.hid (H0.out.rc.tight.below hb (Nat.le_refl _))
  have hzw : w.heap.size ≤ v0.heap.size := HZ0.out
  have hz1 := hb.size
  have HL1 := Lib.hid hl; have HB1 := Lib.hid hb; have HP1 := Lib.hid hp
  have HR := Lib.hid (Ue.add_any H1.out n)
  unfold wrPost at HR
  rw [← HE.out, ← HTT.out] at HR
  have P51 := Lib.hid (P5.out.below hb P5.out.lt)
  obtain ⟨z0, z1, _⟩ := P51.out.two
  clear hl hb hp HT y0 y1
  go_wp2_with fail
  refine HR.out.mono ?_
  rintro e w2 ⟨rfl, hr, ho⟩
  have HS := Lib.hid (H0.out.step HB1.out HL1.out HP1.out hr ho)
  clear hr ho HR
  go_wp2_with fail
  exact bodyPost_ret (v := .tuple #[.pointer (some ⟨g, 0, none⟩), .slice A1 T.length c1, .bool true]) (by simp [results, Try.results10, go_sem]) rfl ⟨g, A1, c1, _, rfl, HS.out.1, HB0.out.trans HS.out.2.1, HO0.out.trans (HS.out.2.2.mono fun _ _ hj => Or.inl hj), fun j hj => hj.elim (fun hj => Or.inl hj.1) (fun hj => Or.inr (by omega)), fun a ha => (HP1.out a ha).elim Or.inl (fun h => Or.inr (by have := h.1; omega))⟩
set_option maxRecDepth 100000 in
set_option maxHeartbeats 1000000 in
theorem do1 (h : Bo N F w g A c L) (hL : L.length ≤ 100000) (n : Int) :
    Calls Try.prog 10 #[.pointer (some ⟨g, 0, none⟩), .slice A L.length c, .agg #[.int .i64 1, .int .i64 n]] w (doPost N F w A L 1 n) := by
  have HST : Hid (stT L 1 n = useT L n) := rfl
  obtain ⟨v0, hv0⟩ : ∃ v0, v0 = w.alloc (.cells #[.int .i64 1, .int .i64 n] 28) := ⟨_, rfl⟩
  obtain ⟨b5, hb5⟩ : ∃ b5, b5 = w.heap.size := ⟨_, rfl⟩
  have b0 : Below w.heap.size w v0 := by rw [hv0]; exact bnew _ _
  have P5 : Hid (Blk v0 b5 #[.int .i64 1, .int .i64 n] 28) := by show Blk _ _ _ _; rw [hv0, hb5]; exact Blk.new _ _ _
  have H0 := Lib.hid (h.below b0)
  have HZ0 := Lib.hid b0.size
  have HB0 := Lib.hid (b0.mono h.sz)
  have HO0 := Lib.hid (Only.of_below b0 (Nat.le_refl _) F)
  have HT := Lib.hid (Ub.use_any H0.out.li n (by omega))
  unfold tabPost at HT
  have hcap := Rs.max h.li
  have g1 : (L.length : Int) ≤ 100000 := by omega
  obtain ⟨y0, y1, _⟩ := P5.out.two
  have hln : L.length ≤ 100000 := hL
  unfold doPost
  rw [HST.out]
  obtain ⟨e0, he0⟩ : ∃ e0, e0 = remN L n := ⟨_, rfl⟩
  have HE := Lib.hid he0
  obtain ⟨T, hT⟩ : ∃ T, T = useT L n := ⟨_, rfl⟩
  have HTT := Lib.hid hT
  rw [← he0, ← hT] at HT
  rw [← hT]
  have hbe : (e0 == e0) = true := by simp
  clear h b0 he0 hT HST
  go_enter Try.func10, Try.ntmps10
  go_wp2_with fail
  rw [← hv0, ← hb5]
  clear hv0 hb5
  go_wp2_with fail
  refine HT.out.mono ?_
  rintro e w1 ⟨A1, c1, rfl, hl, hb, hp⟩
  have H1 := Lib.hid (H0.out.rc.tight.below hb (Nat.le_refl _))
  have hzw : w.heap.size ≤ v0.heap.size := HZ0.out
  have hz1 := hb.size
  have HL1 := Lib.hid hl; have HB1 := Lib.hid hb; have HP1 := Lib.hid hp
  have HR := Lib.hid (Ue.use_any H1.out n)
  unfold wrPost at HR
  rw [← HE.out, ← HTT.out] at HR
  have P51 := Lib.hid (P5.out.below hb P5.out.lt)
  obtain ⟨z0, z1, _⟩ := P51.out.two
  clear hl hb hp HT y0 y1
  go_wp2_with fail
  refine HR.out.mono ?_
  rintro e w2 ⟨rfl, hr, ho⟩
  have HS := Lib.hid (H0.out.step HB1.out HL1.out HP1.out hr ho)
  clear hr ho HR
  go_wp2_with fail
  exact bodyPost_ret (v := .tuple #[.pointer (some ⟨g, 0, none⟩), .slice A1 T.length c1, .bool true]) (by simp [results, Try.results10, go_sem]) rfl ⟨g, A1, c1, _, rfl, HS.out.1, HB0.out.trans HS.out.2.1, HO0.out.trans (HS.out.2.2.mono fun _ _ hj => Or.inl hj), fun j hj => hj.elim (fun hj => Or.inl hj.1) (fun hj => Or.inr (by omega)), fun a ha => (HP1.out a ha).elim Or.inl (fun h => Or.inr (by have := h.1; omega))⟩
set_option maxRecDepth 100000 in
set_option maxHeartbeats 1000000 in
theorem do2 (h : Bo N F w g A c L) (hL : L.length ≤ 100000) (n : Int) :
    Calls Try.prog 10 #[.pointer (some ⟨g, 0, none⟩), .slice A L.length c, .agg #[.int .i64 2, .int .i64 n]] w (doPost N F w A L 2 n) := by
  have HST : Hid (stT L 2 n = remT L n) := rfl
  obtain ⟨v0, hv0⟩ : ∃ v0, v0 = w.alloc (.cells #[.int .i64 2, .int .i64 n] 28) := ⟨_, rfl⟩
  obtain ⟨b5, hb5⟩ : ∃ b5, b5 = w.heap.size := ⟨_, rfl⟩
  have b0 : Below w.heap.size w v0 := by rw [hv0]; exact bnew _ _
  have P5 : Hid (Blk v0 b5 #[.int .i64 2, .int .i64 n] 28) := by show Blk _ _ _ _; rw [hv0, hb5]; exact Blk.new _ _ _
  have H0 := Lib.hid (h.below b0)
  have HZ0 := Lib.hid b0.size
  have HB0 := Lib.hid (b0.mono h.sz)
  have HO0 := Lib.hid (Only.of_below b0 (Nat.le_refl _) F)
  have HT := Lib.hid (Ub.remove_any H0.out.li n (by omega))
  unfold tabPost at HT
  have hcap := Rs.max h.li
  have g1 : (L.length : Int) ≤ 100000 := by omega
  obtain ⟨y0, y1, _⟩ := P5.out.two
  have hln : L.length ≤ 100000 := hL
  unfold doPost
  rw [HST.out]
  obtain ⟨e0, he0⟩ : ∃ e0, e0 = remN L n := ⟨_, rfl⟩
  have HE := Lib.hid he0
  obtain ⟨T, hT⟩ : ∃ T, T = remT L n := ⟨_, rfl⟩
  have HTT := Lib.hid hT
  rw [← he0, ← hT] at HT
  rw [← hT]
  have hbe : (e0 == e0) = true := by simp
  clear h b0 he0 hT HST
  go_enter Try.func10, Try.ntmps10
  go_wp2_with fail
  rw [← hv0, ← hb5]
  clear hv0 hb5
  go_wp2_with fail
  refine HT.out.mono ?_
  rintro e w1 ⟨A1, c1, rfl, hl, hb, hp⟩
  have H1 := Lib.hid (H0.out.rc.tight.below hb (Nat.le_refl _))
  have hzw : w.heap.size ≤ v0.heap.size := HZ0.out
  have hz1 := hb.size
  have HL1 := Lib.hid hl; have HB1 := Lib.hid hb; have HP1 := Lib.hid hp
  have HR := Lib.hid (Ue.remove_any H1.out n)
  unfold wrPost at HR
  rw [← HE.out, ← HTT.out] at HR
  have P51 := Lib.hid (P5.out.below hb P5.out.lt)
  obtain ⟨z0, z1, _⟩ := P51.out.two
  clear hl hb hp HT y0 y1
  go_wp2_with fail
  refine HR.out.mono ?_
  rintro e w2 ⟨rfl, hr, ho⟩
  have HS := Lib.hid (H0.out.step HB1.out HL1.out HP1.out hr ho)
  clear hr ho HR
  go_wp2_with fail
  exact bodyPost_ret (v := .tuple #[.pointer (some ⟨g, 0, none⟩), .slice A1 T.length c1, .bool true]) (by simp [results, Try.results10, go_sem]) rfl ⟨g, A1, c1, _, rfl, HS.out.1, HB0.out.trans HS.out.2.1, HO0.out.trans (HS.out.2.2.mono fun _ _ hj => Or.inl hj), fun j hj => hj.elim (fun hj => Or.inl hj.1) (fun hj => Or.inr (by omega)), fun a ha => (HP1.out a ha).elim Or.inl (fun h => Or.inr (by have := h.1; omega))⟩
set_option maxRecDepth 100000 in
set_option maxHeartbeats 1000000 in
theorem do3 (h : Bo N F w g A c L) (hL : L.length ≤ 100000) (n : Int) :
    Calls Try.prog 10 #[.pointer (some ⟨g, 0, none⟩), .slice A L.length c, .agg #[.int .i64 3, .int .i64 n]] w (doPost N F w A L 3 n) := by
  have HST : Hid (stT L 3 n = L) := rfl
  obtain ⟨v0, hv0⟩ : ∃ v0, v0 = w.alloc (.cells #[.int .i64 3, .int .i64 n] 28) := ⟨_, rfl⟩
  obtain ⟨b5, hb5⟩ : ∃ b5, b5 = w.heap.size := ⟨_, rfl⟩
  have b0 : Below w.heap.size w v0 := by rw [hv0]; exact bnew _ _
  have P5 : Hid (Blk v0 b5 #[.int .i64 3, .int .i64 n] 28) := by show Blk _ _ _ _; rw [hv0, hb5]; exact Blk.new _ _ _
  have H0 := Lib.hid (h.below b0)
  have HZ0 := Lib.hid b0.size
  have HB0 := Lib.hid (b0.mono h.sz)
  have HO0 := Lib.hid (Only.of_below b0 (Nat.le_refl _) F)
  have HT := Lib.hid (Ub.next_any H0.out.li n (by omega))
  have HR := Lib.hid (next_is H0.out.rc n _ _ rfl rfl)
  unfold boolTo at HR
  have hcap := Rs.max h.li
  have g1 : (L.length : Int) ≤ 100000 := by omega
  obtain ⟨y0, y1, _⟩ := P5.out.two
  unfold doPost
  rw [HST.out]
  obtain ⟨e0, he0⟩ : ∃ e0, e0 = nextN L n := ⟨_, rfl⟩
  obtain ⟨x0, hx0⟩ : ∃ x0, x0 = nextV L n := ⟨_, rfl⟩
  rw [← he0, ← hx0] at HT HR
  have hu := And.intro he0 (And.intro hx0 hL)
  clear h b0 he0 hx0 HST hu
  go_enter Try.func10, Try.ntmps10
  go_wp2_with fail
  rw [← hv0, ← hb5]
  clear hv0 hb5
  go_wp2_with fail
  refine HT.out.mono ?_
  rintro e w1 ⟨rfl, rfl⟩
  go_wp2_with fail
  refine HR.out.mono ?_
  rintro e w2 ⟨rfl, hb⟩
  have HB2 := Lib.hid (HB0.out.trans (hb.mono H0.out.sz)); have H2 := Lib.hid (H0.out.below hb); have HO2 := Lib.hid (Only.of_below hb (Nat.le_refl _) (More F w))
  clear hb HR HT
  go_wp2_with fail
  exact bodyPost_ret (v := .tuple #[.pointer (some ⟨g, 0, none⟩), .slice A L.length c, .bool true]) (by simp [results, Try.results10, go_sem]) rfl ⟨g, A, c, _, rfl, H2.out, HB2.out, HO0.out.trans HO2.out, fun j hj => Or.inl hj, fun a ha => Or.inl ha⟩
set_option maxRecDepth 100000 in
set_option maxHeartbeats 1000000 in
theorem do4 (h : Bo N F w g A c L) (hL : L.length ≤ 100000) (a n : Int) (q0 : a ≠ 0) (q1 : a ≠ 1) (q2 : a ≠ 2) (q3 : a ≠ 3) :
    Calls Try.prog 10 #[.pointer (some ⟨g, 0, none⟩), .slice A L.length c, .agg #[.int .i64 a, .int .i64 n]] w (doPost N F w A L a n) := by
  have HST : Hid (stT L a n = L) := by show _ = _; unfold stT; rw [if_neg q0, if_neg q1, if_neg q2]
  obtain ⟨v0, hv0⟩ : ∃ v0, v0 = w.alloc (.cells #[.int .i64 a, .int .i64 n] 28) := ⟨_, rfl⟩
  obtain ⟨b5, hb5⟩ : ∃ b5, b5 = w.heap.size := ⟨_, rfl⟩
  have b0 : Below w.heap.size w v0 := by rw [hv0]; exact bnew _ _
  have P5 : Hid (Blk v0 b5 #[.int .i64 a, .int .i64 n] 28) := by show Blk _ _ _ _; rw [hv0, hb5]; exact Blk.new _ _ _
  have H0 := Lib.hid (h.below b0).tight
  have HZ0 := Lib.hid b0.size
  have HB0 := Lib.hid (b0.mono h.sz)
  have HO0 := Lib.hid (Only.of_below b0 (Nat.le_refl _) F)
  have HC := Lib.hid (copy_any H0.out.rc)
  unfold mkPost at HC
  have hcap := Rs.max h.li
  have g1 : (L.length : Int) ≤ 100000 := by omega
  obtain ⟨y0, y1, _⟩ := P5.out.two
  have c0 : (a == 0) = false := by simpa using q0
  have c1 : (a == 1) = false := by simpa using q1
  have c2 : (a == 2) = false := by simpa using q2
  have c3 : (a == 3) = false := by simpa using q3
  unfold doPost
  rw [HST.out]
  have hu := And.intro q0 (And.intro q1 (And.intro q2 (And.intro q3 hL)))
  clear h b0 HST q0 q1 q2 q3 hu
  go_enter Try.func10, Try.ntmps10
  go_wp2_with fail
  rw [← hv0, ← hb5]
  clear hv0 hb5
  go_wp2_with fail
  refine HC.out.mono ?_
  rintro e w1 ⟨g2, rfl, hr2, hb⟩
  have H1 := Lib.hid (H0.out.below hb)
  have HR2 := Lib.hid hr2.tight
  have HO1 := Lib.hid (HO0.out.trans (Only.of_below hb (Nat.le_refl _) (More F w)))
  have HB1 := Lib.hid (HB0.out.trans (hb.mono H0.out.sz))
  have hz1 := hb.size
  have HR := Lib.hid (Ue.add_any H1.out.rc 77)
  unfold wrPost at HR
  clear hr2 hb HC
  go_wp2_with fail
  refine HR.out.mono ?_
  rintro e w2 ⟨rfl, hr, ho⟩
  have HO2 := Lib.hid ho
  have hz2 := ho.size
  have HR' := Lib.hid (Ue.use_any hr 1)
  unfold wrPost at HR'
  clear hr ho HR
  go_wp2_with fail
  refine HR'.out.mono ?_
  rintro e w3 ⟨rfl, hr, ho⟩
  have HO3 := Lib.hid (HO2.out.trans ho)
  have HR'' := Lib.hid (Ue.remove_any hr 0)
  unfold wrPost at HR''
  clear hr ho HR'
  go_wp2_with fail
  refine HR''.out.mono ?_
  rintro e w4 ⟨rfl, _, ho⟩
  have HO4 : Hid (Only (fun j => F j ∧ j < v0.heap.size) w1 w4) := HO3.out.trans (ho.mono fun j _ hj => by
    rcases hj with (hj | hj) | hj
    · exact Or.inl hj
    · exact Or.inr hj
    · exact Or.inr (by omega))
  have hz4 := HO4.out.size
  clear ho HR''
  have HS : Hid (Bo N (fun j => v0.heap.size ≤ j ∧ j < w1.heap.size) w4 g2 A c L) := by
    have hs0 := H0.out.sz; have hs1 := H1.out.sz
    exact ⟨HR2.out.only HO4.out (fun j hj hf => by have := hj.1; have := hf.2; omega), H1.out.li.only HO4.out H1.out.ap, fun j hj => by have := hj.1; omega, fun a ha hf => by have := H0.out.bd a ha; have := hf.1; omega, by omega, fun a ha => by have := H0.out.bd a ha; omega⟩
  have HO5 : Hid (Only F w w4) := HO1.out.trans (HO4.out.mono fun _ _ hj => Or.inl hj.1)
  have HB4 : Hid (Below N w w4) := HB1.out.trans (HO4.out.below (fun j hj => H1.out.lo j hj) H1.out.sz)
  go_wp2_with fail
  exact bodyPost_ret (v := .tuple #[.pointer (some ⟨g2, 0, none⟩), .slice A L.length c, .bool true]) (by simp [results, Try.results10, go_sem]) rfl ⟨g2, A, c, _, rfl, HS.out, HB4.out, HO5.out, fun j hj => Or.inr (by have := hj.1; have := HZ0.out; omega), fun a ha => Or.inl ha⟩
theorem do_any (h : Bo N F w g A c L) (hL : L.length ≤ 100000) (a n : Int) :
    Calls Try.prog 10 #[.pointer (some ⟨g, 0, none⟩), .slice A L.length c, .agg #[.int .i64 a, .int .i64 n]] w (doPost N F w A L a n) := by
  by_cases q0 : a = 0
  · subst q0; exact do0 h hL n
  · by_cases q1 : a = 1
    · subst q1; exact do1 h hL n
    · by_cases q2 : a = 2
      · subst q2; exact do2 h hL n
      · by_cases q3 : a = 3
        · subst q3; exact do3 h hL n
        · exact do4 h hL a n q0 q1 q2 q3
end
end Go.Proofs.Ytfoalfemkpiniaa.Uf
