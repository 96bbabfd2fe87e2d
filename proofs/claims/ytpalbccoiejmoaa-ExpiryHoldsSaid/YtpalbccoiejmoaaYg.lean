/- Proves what the law's helpers do and looks leave of a heap beside the specification's list. Conditions: as each theorem names them. -/
import Derived.Test.YtpalbccoiejmoaaYf
namespace Go.Proofs.Ytpalbccoiejmoaa.Yg
open Go.RowKit Ap Mi Nw Ya Yb Yc Yd Ye Yf

/-- A heap beside the specification's list, which lies elsewhere. -/
structure Bo (N : Nat) (F : Nat → Prop) (w : World) (g : Nat) (A : Option Addr) (c : Nat) (L : List Td) : Prop where
  rc : Hp F w g L
  li : Lt w A L c
  lo : ∀ j, F j → N ≤ j
  ap : ∀ a, A = some a → ¬ F a.block
  sz : N ≤ w.heap.size
  bd : ∀ a, A = some a → a.block < w.heap.size
theorem Bo.below {N : Nat} {F : Nat → Prop} {w w' : World} {g : Nat} {A : Option Addr} {c : Nat} {L : List Td} (h : Bo N F w g A c L) (hb : Below w.heap.size w w') : Bo N F w' g A c L :=
  ⟨h.rc.below hb (Nat.le_refl _), h.li.below hb (Nat.le_refl _), h.lo, h.ap, Nat.le_trans h.sz hb.size, fun a ha => Nat.lt_of_lt_of_le (h.bd a ha) hb.size⟩
theorem Bo.tight {N : Nat} {F : Nat → Prop} {w : World} {g : Nat} {A : Option Addr} {c : Nat} {L : List Td} (h : Bo N F w g A c L) : Bo N (fun j => F j ∧ j < w.heap.size) w g A c L :=
  ⟨h.rc.tight, h.li, fun j hj => h.lo j hj.1, fun a ha hf => h.ap a ha hf.1, h.sz, h.bd⟩
/-- The heap moves on, the list is another one. -/
theorem Bo.step {N : Nat} {F F' : Nat → Prop} {w w1 w2 : World} {g : Nat} {A A' : Option Addr} {c c' : Nat} {L L' : List Td} (h : Bo N F w g A c L) (hb : Below w.heap.size w w1) (hl : Lt w1 A' L' c') (hA : ∀ a, A' = some a → A = some a ∨ (w.heap.size ≤ a.block ∧ a.block < w1.heap.size))
    (hF' : ∀ j, F' j → (F j ∧ j < w.heap.size) ∨ w1.heap.size ≤ j) (hr : Hp F' w2 g L') (ho : Only (fun j => F j ∧ j < w.heap.size) w1 w2) : Bo N F' w2 g A' c' L' ∧ Below N w w2 ∧ Only F w w2 := by
  have hz := hb.size; have hz2 := ho.size
  have key : ∀ a, A' = some a → ¬ (F a.block ∧ a.block < w.heap.size) ∧ a.block < w1.heap.size := fun a ha => by
    rcases hA a ha with h1 | h1
    · exact ⟨fun hf => h.ap a h1 hf.1, Nat.lt_of_lt_of_le (h.bd a h1) hz⟩
    · exact ⟨fun hf => by omega, h1.2⟩
  have hsz := h.sz
  refine ⟨⟨hr, hl.only ho (fun a ha => (key a ha).1), fun j hj => ?_, fun a ha hf => ?_, by omega, fun a ha => Nat.lt_of_lt_of_le (key a ha).2 hz2⟩, ?_, (Only.of_below hb (Nat.le_refl _) F).trans (ho.mono fun _ _ hj => Or.inl hj.1)⟩
  · rcases hF' j hj with hj | hj
    · exact h.lo j hj.1
    · omega
  · rcases hF' _ hf with hf | hf
    · exact (key a ha).1 hf
    · have := (key a ha).2; omega
  · exact (hb.mono hsz).trans (ho.below (fun j hj => h.lo j hj.1) (by omega))
/-- Which slot a call means. -/
def whn (L : List Td) (a n : Int) : Int := if a = 4 ∧ L ≠ [] then (oldV L).1 else n
/-- What a call makes of a list. -/
def stT (L : List Td) (a n t : Int) : List Td := if a = 0 then putT L n t else if a = 1 then movT L n t else if a = 2 ∨ a = 4 then remT L (whn L a n) else if a = 3 then L.drop (dueK L t) else L
theorem Srt.st {L : List Td} (h : Srt L) (a n : Int) {t : Int} (ht : Tm t) : Srt (stT L a n t) := by
  unfold stT
  repeat' split
  · exact h.put n ht
  · exact h.mov n ht
  · exact h.rem _
  · exact h.drop _
  · exact h
theorem stT_len {L : List Td} (h : Srt L) (a n t : Int) : (stT L a n t).length ≤ L.length + 1 := by
  unfold stT
  repeat' split
  · exact put_len L n t
  · have := mov_len h n t; omega
  · have := rem_len L (whn L a n); omega
  · rw [List.length_drop]; omega
  · omega
/-- What do leaves. -/
def doPost (N : Nat) (F0 : Nat → Prop) (w : World) (A0 : Option Addr) (L : List Td) : Ending → World → Prop := fun e w' => ∃ g A c F, e = .returned (.tuple #[.pointer (some ⟨g, 0, none⟩), .slice A L.length c, .bool true]) ∧ Bo N F w' g A c L ∧ Below N w w' ∧ Only F0 w w' ∧ (∀ j, F j → F0 j ∨ w.heap.size ≤ j) ∧ ∀ a, A = some a → A0 = some a ∨ w.heap.size ≤ a.block
section
variable {N : Nat} {F : Nat → Prop} {w : World} {g : Nat} {A : Option Addr} {c : Nat} {L : List Td}
set_option maxRecDepth 100000 in
set_option maxHeartbeats 1000000 in
theorem do0 (h : Bo N F w g A c L) (n t : Int) (ht : Tm t) :
    Calls Try.prog 10 #[.pointer (some ⟨g, 0, none⟩), .slice A L.length c, .agg #[.int .i64 0, .int .i64 n, .int .u64 t]] w (doPost N F w A (stT L 0 n t)) := by
  have HST : Hid (stT L 0 n t = putT L n t) := rfl
  obtain ⟨v0, hv0⟩ : ∃ v0, v0 = w.alloc (.cells #[.int .i64 0, .int .i64 n, .int .u64 t] 30) := ⟨_, rfl⟩
  have b0 : Below w.heap.size w v0 := by rw [hv0]; exact bnew _ _
  have P5 : Hid (Blk v0 w.heap.size #[.int .i64 0, .int .i64 n, .int .u64 t] 30) := by show Blk _ _ _ _; rw [hv0]; exact Blk.new _ _ _
  obtain ⟨b5, hb5⟩ : ∃ b5, b5 = w.heap.size := ⟨_, rfl⟩
  rw [← hb5] at P5
  have H0 := Lib.hid (h.below b0)
  have HZ0 := Lib.hid b0.size
  have HB0 := Lib.hid (b0.mono h.sz)
  have HO0 := Lib.hid (Only.of_below b0 (Nat.le_refl _) F)
  have hcap := Rs.max h.li
  have hLs := h.rc.srt.len
  have g1 : (L.length : Int) ≤ 1048576 := by omega
  have HTM := Lib.hid ht
  obtain ⟨y0, y1, y2, _⟩ := P5.out.three
  have HT := Lib.hid (Yd.put_any H0.out.li n t (by omega))
  unfold tabPost at HT
  unfold doPost
  rw [HST.out]
  obtain ⟨e0, he0⟩ : ∃ e0, e0 = putN L n := ⟨_, rfl⟩
  have HE := Lib.hid he0
  obtain ⟨T, hT⟩ : ∃ T, T = putT L n t := ⟨_, rfl⟩
  have HTT := Lib.hid hT
  rw [← he0, ← hT] at HT
  rw [← hT]
  have hbe : (e0 == e0) = true := by simp
  clear h b0 he0 hT HST ht hLs
  go_enter Try.func10, Try.ntmps10
  go_wp2_with fail
  rw [← hv0, ← hb5]
  clear hv0 hb5
  go_wp2_with fail
  refine HT.out.mono ?_
  rintro e w1 ⟨A1, c1, rfl, hl, hb, hp⟩
  have H1 := Lib.hid (H0.out.rc.tight.below hb (Nat.le_refl _))
  have hz1 := hb.size
  have HL1 := Lib.hid hl; have HB1 := Lib.hid hb; have HP1 := Lib.hid hp
  have HR := Lib.hid (Ye.put_any H1.out n t HTM.out)
  unfold wrPost at HR
  rw [← HE.out, ← HTT.out] at HR
  have P51 := Lib.hid (P5.out.below hb P5.out.lt)
  clear hl hb hp HT y0 y1 y2
  obtain ⟨z0, z1, z2, _⟩ := P51.out.three
  go_wp2_with fail
  refine HR.out.mono ?_
  rintro e w2 ⟨rfl, hr, ho⟩
  have HS := Lib.hid (H0.out.step HB1.out HL1.out HP1.out (fun j hj => hj) hr ho)
  have HFF : Hid (∀ j, More (fun j => F j ∧ j < v0.heap.size) w1 j → F j ∨ w.heap.size ≤ j) := fun j hj => hj.elim (fun hj => Or.inl hj.1) (fun hj => Or.inr (by have := HZ0.out; omega))
  clear hr ho HR
  go_wp2_with fail
  exact bodyPost_ret (v := .tuple #[.pointer (some ⟨g, 0, none⟩), .slice A1 T.length c1, .bool true]) (by simp [results, Try.results10, go_sem]) rfl ⟨g, A1, c1, _, rfl, HS.out.1, HB0.out.trans HS.out.2.1, HO0.out.trans (HS.out.2.2.mono fun _ _ hj => Or.inl hj), HFF.out, fun a ha => (HP1.out a ha).elim Or.inl (fun h => Or.inr (by have := h.1; have := HZ0.out; omega))⟩
set_option maxRecDepth 100000 in
set_option maxHeartbeats 1000000 in
theorem do1 (h : Bo N F w g A c L) (n t : Int) (ht : Tm t) :
    Calls Try.prog 10 #[.pointer (some ⟨g, 0, none⟩), .slice A L.length c, .agg #[.int .i64 1, .int .i64 n, .int .u64 t]] w (doPost N F w A (stT L 1 n t)) := by
  have HST : Hid (stT L 1 n t = movT L n t) := rfl
  obtain ⟨v0, hv0⟩ : ∃ v0, v0 = w.alloc (.cells #[.int .i64 1, .int .i64 n, .int .u64 t] 30) := ⟨_, rfl⟩
  have b0 : Below w.heap.size w v0 := by rw [hv0]; exact bnew _ _
  have P5 : Hid (Blk v0 w.heap.size #[.int .i64 1, .int .i64 n, .int .u64 t] 30) := by show Blk _ _ _ _; rw [hv0]; exact Blk.new _ _ _
  obtain ⟨b5, hb5⟩ : ∃ b5, b5 = w.heap.size := ⟨_, rfl⟩
  rw [← hb5] at P5
  have H0 := Lib.hid (h.below b0)
  have HZ0 := Lib.hid b0.size
  have HB0 := Lib.hid (b0.mono h.sz)
  have HO0 := Lib.hid (Only.of_below b0 (Nat.le_refl _) F)
  have hcap := Rs.max h.li
  have hLs := h.rc.srt.len
  have g1 : (L.length : Int) ≤ 1048576 := by omega
  have HTM := Lib.hid ht
  obtain ⟨y0, y1, y2, _⟩ := P5.out.three
  have HT := Lib.hid (Yd.move_any H0.out.li n t (by omega) h.rc.srt.nd)
  unfold tabPost at HT
  unfold doPost
  rw [HST.out]
  obtain ⟨e0, he0⟩ : ∃ e0, e0 = remN L n := ⟨_, rfl⟩
  have HE := Lib.hid he0
  obtain ⟨T, hT⟩ : ∃ T, T = movT L n t := ⟨_, rfl⟩
  have HTT := Lib.hid hT
  rw [← he0, ← hT] at HT
  rw [← hT]
  have hbe : (e0 == e0) = true := by simp
  clear h b0 he0 hT HST ht hLs
  go_enter Try.func10, Try.ntmps10
  go_wp2_with fail
  rw [← hv0, ← hb5]
  clear hv0 hb5
  go_wp2_with fail
  refine HT.out.mono ?_
  rintro e w1 ⟨A1, c1, rfl, hl, hb, hp⟩
  have H1 := Lib.hid (H0.out.rc.tight.below hb (Nat.le_refl _))
  have hz1 := hb.size
  have HL1 := Lib.hid hl; have HB1 := Lib.hid hb; have HP1 := Lib.hid hp
  have HR := Lib.hid (Ye.move_any H1.out n t HTM.out)
  unfold wrPost at HR
  rw [← HE.out, ← HTT.out] at HR
  have P51 := Lib.hid (P5.out.below hb P5.out.lt)
  clear hl hb hp HT y0 y1 y2
  obtain ⟨z0, z1, z2, _⟩ := P51.out.three
  go_wp2_with fail
  refine HR.out.mono ?_
  rintro e w2 ⟨rfl, hr, ho⟩
  have HS := Lib.hid (H0.out.step HB1.out HL1.out HP1.out (fun j hj => hj) hr ho)
  have HFF : Hid (∀ j, More (fun j => F j ∧ j < v0.heap.size) w1 j → F j ∨ w.heap.size ≤ j) := fun j hj => hj.elim (fun hj => Or.inl hj.1) (fun hj => Or.inr (by have := HZ0.out; omega))
  clear hr ho HR
  go_wp2_with fail
  exact bodyPost_ret (v := .tuple #[.pointer (some ⟨g, 0, none⟩), .slice A1 T.length c1, .bool true]) (by simp [results, Try.results10, go_sem]) rfl ⟨g, A1, c1, _, rfl, HS.out.1, HB0.out.trans HS.out.2.1, HO0.out.trans (HS.out.2.2.mono fun _ _ hj => Or.inl hj), HFF.out, fun a ha => (HP1.out a ha).elim Or.inl (fun h => Or.inr (by have := h.1; have := HZ0.out; omega))⟩
set_option maxRecDepth 100000 in
set_option maxHeartbeats 1000000 in
theorem do2 (h : Bo N F w g A c L) (n t : Int) (ht : Tm t) :
    Calls Try.prog 10 #[.pointer (some ⟨g, 0, none⟩), .slice A L.length c, .agg #[.int .i64 2, .int .i64 n, .int .u64 t]] w (doPost N F w A (stT L 2 n t)) := by
  have HST : Hid (stT L 2 n t = remT L n) := rfl
  obtain ⟨v0, hv0⟩ : ∃ v0, v0 = w.alloc (.cells #[.int .i64 2, .int .i64 n, .int .u64 t] 30) := ⟨_, rfl⟩
  have b0 : Below w.heap.size w v0 := by rw [hv0]; exact bnew _ _
  have P5 : Hid (Blk v0 w.heap.size #[.int .i64 2, .int .i64 n, .int .u64 t] 30) := by show Blk _ _ _ _; rw [hv0]; exact Blk.new _ _ _
  obtain ⟨b5, hb5⟩ : ∃ b5, b5 = w.heap.size := ⟨_, rfl⟩
  rw [← hb5] at P5
  have H0 := Lib.hid (h.below b0)
  have HZ0 := Lib.hid b0.size
  have HB0 := Lib.hid (b0.mono h.sz)
  have HO0 := Lib.hid (Only.of_below b0 (Nat.le_refl _) F)
  have hcap := Rs.max h.li
  have hLs := h.rc.srt.len
  have g1 : (L.length : Int) ≤ 1048576 := by omega
  have HTM := Lib.hid ht
  obtain ⟨y0, y1, y2, _⟩ := P5.out.three
  have HT := Lib.hid (Yd.remove_any H0.out.li n (by omega) h.rc.srt.nd)
  unfold remPost at HT
  unfold doPost
  rw [HST.out]
  obtain ⟨e0, he0⟩ : ∃ e0, e0 = remN L n := ⟨_, rfl⟩
  have HE := Lib.hid he0
  obtain ⟨u0, hu0⟩ : ∃ u0, u0 = remA L n := ⟨_, rfl⟩
  have HU := Lib.hid hu0
  obtain ⟨T, hT⟩ : ∃ T, T = remT L n := ⟨_, rfl⟩
  have HTT := Lib.hid hT
  rw [← he0, ← hT, ← hu0] at HT
  rw [← hT]
  clear h b0 he0 hT hu0 HST ht hLs
  go_enter Try.func10, Try.ntmps10
  go_wp2_with fail
  rw [← hv0, ← hb5]
  clear hv0 hb5
  go_wp2_with fail
  refine HT.out.mono ?_
  rintro e w1 ⟨A1, c1, rfl, hl, hb, hp⟩
  have H1 := Lib.hid (H0.out.rc.tight.below hb (Nat.le_refl _))
  have hz1 := hb.size
  have HL1 := Lib.hid hl; have HB1 := Lib.hid hb; have HP1 := Lib.hid hp
  have HR := Lib.hid (removes_is H1.out n u0 e0 HU.out.symm HE.out.symm)
  unfold trPost wrPost at HR
  rw [← HTT.out] at HR
  clear hl hb hp HT y0 y1 y2
  go_wp2_with fail
  refine HR.out.mono ?_
  rintro e w2 ⟨rfl, hr, ho⟩
  have HS := Lib.hid (H0.out.step HB1.out HL1.out HP1.out (fun j hj => hj) hr ho)
  have HFF : Hid (∀ j, More (fun j => F j ∧ j < v0.heap.size) w1 j → F j ∨ w.heap.size ≤ j) := fun j hj => hj.elim (fun hj => Or.inl hj.1) (fun hj => Or.inr (by have := HZ0.out; omega))
  clear hr ho HR
  go_wp2_with fail
  exact bodyPost_ret (v := .tuple #[.pointer (some ⟨g, 0, none⟩), .slice A1 T.length c1, .bool true]) (by simp [results, Try.results10, go_sem]) rfl ⟨g, A1, c1, _, rfl, HS.out.1, HB0.out.trans HS.out.2.1, HO0.out.trans (HS.out.2.2.mono fun _ _ hj => Or.inl hj), HFF.out, fun a ha => (HP1.out a ha).elim Or.inl (fun h => Or.inr (by have := h.1; have := HZ0.out; omega))⟩
set_option maxRecDepth 100000 in
set_option maxHeartbeats 1000000 in
theorem do4a (h : Bo N F w g A c L) (n t : Int) (ht : Tm t) (hl : L = []) :
    Calls Try.prog 10 #[.pointer (some ⟨g, 0, none⟩), .slice A L.length c, .agg #[.int .i64 4, .int .i64 n, .int .u64 t]] w (doPost N F w A (stT L 4 n t)) := by
  have HST : Hid (stT L 4 n t = remT L n) := by show _ = _; unfold stT whn; rw [if_neg (by omega), if_neg (by omega), if_pos (Or.inr rfl), if_neg (fun h => h.2 hl)]
  obtain ⟨v0, hv0⟩ : ∃ v0, v0 = w.alloc (.cells #[.int .i64 4, .int .i64 n, .int .u64 t] 30) := ⟨_, rfl⟩
  have b0 : Below w.heap.size w v0 := by rw [hv0]; exact bnew _ _
  have P5 : Hid (Blk v0 w.heap.size #[.int .i64 4, .int .i64 n, .int .u64 t] 30) := by show Blk _ _ _ _; rw [hv0]; exact Blk.new _ _ _
  obtain ⟨b5, hb5⟩ : ∃ b5, b5 = w.heap.size := ⟨_, rfl⟩
  rw [← hb5] at P5
  have H0 := Lib.hid (h.below b0)
  have HZ0 := Lib.hid b0.size
  have HB0 := Lib.hid (b0.mono h.sz)
  have HO0 := Lib.hid (Only.of_below b0 (Nat.le_refl _) F)
  have hcap := Rs.max h.li
  have hLs := h.rc.srt.len
  have g1 : (L.length : Int) ≤ 1048576 := by omega
  have HTM := Lib.hid ht
  obtain ⟨y0, y1, y2, _⟩ := P5.out.three
  have HT := Lib.hid (Yd.remove_any H0.out.li n (by omega) h.rc.srt.nd)
  unfold remPost at HT
  unfold doPost
  rw [HST.out]
  obtain ⟨e0, he0⟩ : ∃ e0, e0 = remN L n := ⟨_, rfl⟩
  have HE := Lib.hid he0
  obtain ⟨u0, hu0⟩ : ∃ u0, u0 = remA L n := ⟨_, rfl⟩
  have HU := Lib.hid hu0
  obtain ⟨T, hT⟩ : ∃ T, T = remT L n := ⟨_, rfl⟩
  have HTT := Lib.hid hT
  rw [← he0, ← hT, ← hu0] at HT
  rw [← hT]
  clear h b0 he0 hT hu0 HST ht hLs
  have hl0 : ¬ (0 : Int) < (L.length : Int) := by rw [hl]; simp
  clear hl
  go_enter Try.func10, Try.ntmps10
  go_wp2_with fail
  rw [← hv0, ← hb5]
  clear hv0 hb5
  go_wp2_with fail
  refine HT.out.mono ?_
  rintro e w1 ⟨A1, c1, rfl, hl, hb, hp⟩
  have H1 := Lib.hid (H0.out.rc.tight.below hb (Nat.le_refl _))
  have hz1 := hb.size
  have HL1 := Lib.hid hl; have HB1 := Lib.hid hb; have HP1 := Lib.hid hp
  have HR := Lib.hid (removes_is H1.out n u0 e0 HU.out.symm HE.out.symm)
  unfold trPost wrPost at HR
  rw [← HTT.out] at HR
  clear hl hb hp HT y0 y1 y2
  go_wp2_with fail
  refine HR.out.mono ?_
  rintro e w2 ⟨rfl, hr, ho⟩
  have HS := Lib.hid (H0.out.step HB1.out HL1.out HP1.out (fun j hj => hj) hr ho)
  have HFF : Hid (∀ j, More (fun j => F j ∧ j < v0.heap.size) w1 j → F j ∨ w.heap.size ≤ j) := fun j hj => hj.elim (fun hj => Or.inl hj.1) (fun hj => Or.inr (by have := HZ0.out; omega))
  clear hr ho HR
  go_wp2_with fail
  exact bodyPost_ret (v := .tuple #[.pointer (some ⟨g, 0, none⟩), .slice A1 T.length c1, .bool true]) (by simp [results, Try.results10, go_sem]) rfl ⟨g, A1, c1, _, rfl, HS.out.1, HB0.out.trans HS.out.2.1, HO0.out.trans (HS.out.2.2.mono fun _ _ hj => Or.inl hj), HFF.out, fun a ha => (HP1.out a ha).elim Or.inl (fun h => Or.inr (by have := h.1; have := HZ0.out; omega))⟩
set_option maxRecDepth 100000 in
set_option maxHeartbeats 1000000 in
theorem do4b (h : Bo N F w g A c L) (n t : Int) (ht : Tm t) (hl : L ≠ []) :
    Calls Try.prog 10 #[.pointer (some ⟨g, 0, none⟩), .slice A L.length c, .agg #[.int .i64 4, .int .i64 n, .int .u64 t]] w (doPost N F w A (stT L 4 n t)) := by
  obtain ⟨m, hm⟩ : ∃ m, m = (L[0]'(List.length_pos_iff.2 hl)).1 := ⟨_, rfl⟩
  have HST : Hid (stT L 4 n t = remT L m) := by
    show _ = _
    unfold stT whn
    rw [if_neg (by omega), if_neg (by omega), if_pos (Or.inr rfl), if_pos ⟨rfl, hl⟩, hm]
    cases L with
    | nil => exact absurd rfl hl
    | cons x r => rfl
  obtain ⟨v0, hv0⟩ : ∃ v0, v0 = w.alloc (.cells #[.int .i64 4, .int .i64 n, .int .u64 t] 30) := ⟨_, rfl⟩
  have b0 : Below w.heap.size w v0 := by rw [hv0]; exact bnew _ _
  have P5 : Hid (Blk v0 w.heap.size #[.int .i64 4, .int .i64 n, .int .u64 t] 30) := by show Blk _ _ _ _; rw [hv0]; exact Blk.new _ _ _
  obtain ⟨b5, hb5⟩ : ∃ b5, b5 = w.heap.size := ⟨_, rfl⟩
  rw [← hb5] at P5
  have H0 := Lib.hid (h.below b0)
  have HZ0 := Lib.hid b0.size
  have HB0 := Lib.hid (b0.mono h.sz)
  have HO0 := Lib.hid (Only.of_below b0 (Nat.le_refl _) F)
  have hcap := Rs.max h.li
  have hLs := h.rc.srt.len
  have g1 : (L.length : Int) ≤ 1048576 := by omega
  have HTM := Lib.hid ht
  obtain ⟨y0, y1, y2, _⟩ := P5.out.three
  have HT := Lib.hid (Yd.remove_any H0.out.li m (by omega) h.rc.srt.nd)
  unfold remPost at HT
  unfold doPost
  rw [HST.out]
  obtain ⟨e0, he0⟩ : ∃ e0, e0 = remN L m := ⟨_, rfl⟩
  have HE := Lib.hid he0
  obtain ⟨u0, hu0⟩ : ∃ u0, u0 = remA L m := ⟨_, rfl⟩
  have HU := Lib.hid hu0
  obtain ⟨T, hT⟩ : ∃ T, T = remT L m := ⟨_, rfl⟩
  have HTT := Lib.hid hT
  rw [← he0, ← hT, ← hu0] at HT
  rw [← hT]
  clear h b0 he0 hT hu0 HST ht hLs
  have hp := List.length_pos_iff.2 hl
  have hl0 : (0 : Int) < (L.length : Int) := by omega
  obtain ⟨tb, to_, rfl, ltb, a0, -⟩ := H0.out.li.at_ hp
  have a0' : v0.cell? ⟨tb, to_, none⟩ = some (.int .i64 m) := by rw [hm]; simpa using a0
  have a0x : (w.alloc (.cells #[.int .i64 4, .int .i64 n, .int .u64 t] 30)).cell? ⟨tb, to_, none⟩ = some (.int .i64 m) := by rw [← hv0]; exact a0'
  clear hl hp a0 hm
  go_enter Try.func10, Try.ntmps10
  go_wp2_with fail
  rw [← hv0, ← hb5]
  clear hv0 hb5
  go_wp2_with fail
  refine HT.out.mono ?_
  rintro e w1 ⟨A1, c1, rfl, hl, hb, hp⟩
  have H1 := Lib.hid (H0.out.rc.tight.below hb (Nat.le_refl _))
  have hz1 := hb.size
  have HL1 := Lib.hid hl; have HB1 := Lib.hid hb; have HP1 := Lib.hid hp
  have HR := Lib.hid (removes_is H1.out m u0 e0 HU.out.symm HE.out.symm)
  unfold trPost wrPost at HR
  rw [← HTT.out] at HR
  clear hl hb hp HT y0 y1 y2
  go_wp2_with fail
  refine HR.out.mono ?_
  rintro e w2 ⟨rfl, hr, ho⟩
  have HS := Lib.hid (H0.out.step HB1.out HL1.out HP1.out (fun j hj => hj) hr ho)
  have HFF : Hid (∀ j, More (fun j => F j ∧ j < v0.heap.size) w1 j → F j ∨ w.heap.size ≤ j) := fun j hj => hj.elim (fun hj => Or.inl hj.1) (fun hj => Or.inr (by have := HZ0.out; omega))
  clear hr ho HR
  go_wp2_with fail
  exact bodyPost_ret (v := .tuple #[.pointer (some ⟨g, 0, none⟩), .slice A1 T.length c1, .bool true]) (by simp [results, Try.results10, go_sem]) rfl ⟨g, A1, c1, _, rfl, HS.out.1, HB0.out.trans HS.out.2.1, HO0.out.trans (HS.out.2.2.mono fun _ _ hj => Or.inl hj), HFF.out, fun a ha => (HP1.out a ha).elim Or.inl (fun h => Or.inr (by have := h.1; have := HZ0.out; omega))⟩
set_option maxRecDepth 100000 in
set_option maxHeartbeats 1000000 in
theorem do3 (h : Bo N F w g A c L) (n t : Int) (ht : Tm t) :
    Calls Try.prog 10 #[.pointer (some ⟨g, 0, none⟩), .slice A L.length c, .agg #[.int .i64 3, .int .i64 n, .int .u64 t]] w (doPost N F w A (stT L 3 n t)) := by
  have HST : Hid (stT L 3 n t = L.drop (dueK L t)) := rfl
  obtain ⟨v0, hv0⟩ : ∃ v0, v0 = w.alloc (.cells #[.int .i64 3, .int .i64 n, .int .u64 t] 30) := ⟨_, rfl⟩
  have b0 : Below w.heap.size w v0 := by rw [hv0]; exact bnew _ _
  have P5 : Hid (Blk v0 w.heap.size #[.int .i64 3, .int .i64 n, .int .u64 t] 30) := by show Blk _ _ _ _; rw [hv0]; exact Blk.new _ _ _
  obtain ⟨b5, hb5⟩ : ∃ b5, b5 = w.heap.size := ⟨_, rfl⟩
  rw [← hb5] at P5
  have H0 := Lib.hid (h.below b0)
  have HZ0 := Lib.hid b0.size
  have HB0 := Lib.hid (b0.mono h.sz)
  have HO0 := Lib.hid (Only.of_below b0 (Nat.le_refl _) F)
  have hcap := Rs.max h.li
  have hLs := h.rc.srt.len
  have g1 : (L.length : Int) ≤ 1048576 := by omega
  have HTM := Lib.hid ht
  obtain ⟨y0, y1, y2, _⟩ := P5.out.three
  have HT := Lib.hid (Yd.due_any H0.out.li t (by omega))
  unfold Yd.duePost at HT
  unfold doPost
  rw [HST.out]
  obtain ⟨T, hT⟩ : ∃ T, T = L.drop (dueK L t) := ⟨_, rfl⟩
  have HTT := Lib.hid hT
  obtain ⟨M, hM⟩ : ∃ M, M = L.take (dueK L t) := ⟨_, rfl⟩
  have HMM := Lib.hid hM
  rw [← hT, ← hM] at HT
  rw [← hT]
  clear h b0 hT hM HST ht hLs
  go_enter Try.func10, Try.ntmps10
  go_wp2_with fail
  rw [← hv0, ← hb5]
  clear hv0 hb5
  go_wp2_with fail
  refine HT.out.mono ?_
  rintro e w1 ⟨A1, c1, B1, d1, rfl, hl, hm, hb, hp, hq⟩
  have H1 := Lib.hid (H0.out.rc.tight.below hb (Nat.le_refl _))
  have hz1 := hb.size
  have HL1 := Lib.hid hl; have HB1 := Lib.hid hb
  have HP1 : Hid (∀ a, A1 = some a → A = some a ∨ (v0.heap.size ≤ a.block ∧ a.block < w1.heap.size)) := fun a ha => Or.inr (hp a ha)
  have HR := Lib.hid (dues_is H1.out t HMM.out hm (fun b hb hf => by have := (hq b hb).1; have := hf.2; omega))
  unfold duTrue at HR
  rw [← HTT.out] at HR
  have P51 := Lib.hid (P5.out.below hb P5.out.lt)
  clear hl hm hb hp hq HT y0 y1 y2
  obtain ⟨z0, z1, z2, _⟩ := P51.out.three
  go_wp2_with fail
  refine HR.out.mono ?_
  rintro e w2 ⟨F', rfl, hr, hF', ho⟩
  have HFF : Hid (∀ j, F' j → F j ∨ w.heap.size ≤ j) := fun j hj => (hF' j hj).elim (fun hj => Or.inl hj.1) (fun hj => Or.inr (by have := HZ0.out; omega))
  have HS := Lib.hid (H0.out.step HB1.out HL1.out HP1.out hF' hr ho)
  clear hr ho hF' HR
  go_wp2_with fail
  exact bodyPost_ret (v := .tuple #[.pointer (some ⟨g, 0, none⟩), .slice A1 T.length c1, .bool true]) (by simp [results, Try.results10, go_sem]) rfl ⟨g, A1, c1, _, rfl, HS.out.1, HB0.out.trans HS.out.2.1, HO0.out.trans (HS.out.2.2.mono fun _ _ hj => Or.inl hj), HFF.out, fun a ha => (HP1.out a ha).elim Or.inl (fun h => Or.inr (by have := h.1; have := HZ0.out; omega))⟩
set_option maxRecDepth 100000 in
set_option maxHeartbeats 1000000 in
theorem do5 (h : Bo N F w g A c L) (a n t : Int) (q0 : a ≠ 0) (q1 : a ≠ 1) (q2 : a ≠ 2) (q3 : a ≠ 3) (q4 : a ≠ 4) :
    Calls Try.prog 10 #[.pointer (some ⟨g, 0, none⟩), .slice A L.length c, .agg #[.int .i64 a, .int .i64 n, .int .u64 t]] w (doPost N F w A (stT L a n t)) := by
  have HST : Hid (stT L a n t = L) := by show _ = _; unfold stT; rw [if_neg q0, if_neg q1, if_neg (fun h => h.elim q2 q4), if_neg q3]
  obtain ⟨v0, hv0⟩ : ∃ v0, v0 = w.alloc (.cells #[.int .i64 a, .int .i64 n, .int .u64 t] 30) := ⟨_, rfl⟩
  have b0 : Below w.heap.size w v0 := by rw [hv0]; exact bnew _ _
  have P5 : Hid (Blk v0 w.heap.size #[.int .i64 a, .int .i64 n, .int .u64 t] 30) := by show Blk _ _ _ _; rw [hv0]; exact Blk.new _ _ _
  obtain ⟨b5, hb5⟩ : ∃ b5, b5 = w.heap.size := ⟨_, rfl⟩
  rw [← hb5] at P5
  have H0 := Lib.hid (h.below b0).tight
  have HZ0 := Lib.hid b0.size
  have HB0 := Lib.hid (b0.mono h.sz)
  have HO0 := Lib.hid (Only.of_below b0 (Nat.le_refl _) F)
  have hcap := Rs.max h.li
  have hLs := h.rc.srt.len
  have g1 : (L.length : Int) ≤ 1048576 := by omega
  obtain ⟨y0, y1, y2, _⟩ := P5.out.three
  have HC := Lib.hid (Ye.copy_any H0.out.rc)
  unfold mkPost at HC
  have c0 : (a == 0) = false := by simpa using q0
  have c1' : (a == 1) = false := by simpa using q1
  have c2 : (a == 2) = false := by simpa using q2
  have c3 : (a == 3) = false := by simpa using q3
  have c4 : (a == 4) = false := by simpa using q4
  unfold doPost
  rw [HST.out]
  have hu := And.intro q0 (And.intro q1 (And.intro q2 (And.intro q3 (And.intro q4 hLs))))
  clear h b0 HST q0 q1 q2 q3 q4 hu
  go_enter Try.func10, Try.ntmps10
  go_wp2_with fail
  rw [← hv0, ← hb5]
  clear hv0 hb5
  go_wp2_with fail
  refine HC.out.mono ?_
  rintro e w1 ⟨g2, rfl, hr2, hb⟩
  have H1 := Lib.hid (H0.out.below hb)
  have HR2 := Lib.hid hr2.tight
  have HO1 := Lib.hid (HO0.out.trans (Only.of_below hb (Nat.le_refl _) (More F w)))
  have HB1 := Lib.hid (HB0.out.trans (hb.mono H0.out.sz))
  have hz1 := hb.size
  have HR := Lib.hid (Ye.put_any H1.out.rc 77 0 ⟨by omega, by omega⟩)
  unfold wrPost at HR
  clear hr2 hb HC y0 y1 y2
  go_wp2_with fail
  refine HR.out.mono ?_
  rintro e w2 ⟨rfl, hr, ho⟩
  have HO2 := Lib.hid ho
  have hz2 := ho.size
  have HR' := Lib.hid (Ye.move_any hr 1 3 ⟨by omega, by omega⟩)
  unfold wrPost at HR'
  clear hr ho HR
  go_wp2_with fail
  refine HR'.out.mono ?_
  rintro e w3 ⟨rfl, hr, ho⟩
  have HO3 := Lib.hid (HO2.out.trans ho)
  have HR'' := Lib.hid (Ye.due_any hr 9)
  unfold duPost at HR''
  clear hr ho HR'
  go_wp2_with fail
  refine HR''.out.mono ?_
  rintro e w4 ⟨F', A9, c9, rfl, -, -, -, -, ho⟩
  have HO4 : Hid (Only (fun j => F j ∧ j < v0.heap.size) w1 w4) := HO3.out.trans (ho.mono fun j _ hj => by
    rcases hj with (hj | hj) | hj
    · exact Or.inl hj
    · exact Or.inr hj
    · exact Or.inr (by omega))
  have hz4 := HO4.out.size
  clear ho HR''
  have HS : Hid (Bo N (fun j => v0.heap.size ≤ j ∧ j < w1.heap.size) w4 g2 A c L) := by
    have hs0 := H0.out.sz; have hs1 := H1.out.sz
    exact ⟨HR2.out.only HO4.out (fun j hj hf => by have := hj.1; have := hf.2; omega), H1.out.li.only HO4.out H1.out.ap, fun j hj => by have := hj.1; omega, fun a ha hf => by have := H0.out.bd a ha; have := hf.1; omega, by omega, fun a ha => by have := H0.out.bd a ha; omega⟩
  have HO5 : Hid (Only F w w4) := HO1.out.trans (HO4.out.mono fun _ _ hj => Or.inl hj.1)
  have HB4 : Hid (Below N w w4) := HB1.out.trans (HO4.out.below (fun j hj => H1.out.lo j hj) H1.out.sz)
  go_wp2_with fail
  exact bodyPost_ret (v := .tuple #[.pointer (some ⟨g2, 0, none⟩), .slice A L.length c, .bool true]) (by simp [results, Try.results10, go_sem]) rfl ⟨g2, A, c, _, rfl, HS.out, HB4.out, HO5.out, fun j hj => Or.inr (by have := hj.1; have := HZ0.out; omega), fun a ha => Or.inl ha⟩
theorem do_any (h : Bo N F w g A c L) (a n t : Int) (ht : Tm t) :
    Calls Try.prog 10 #[.pointer (some ⟨g, 0, none⟩), .slice A L.length c, .agg #[.int .i64 a, .int .i64 n, .int .u64 t]] w (doPost N F w A (stT L a n t)) := by
  by_cases q0 : a = 0
  · subst q0; exact do0 h n t ht
  by_cases q1 : a = 1
  · subst q1; exact do1 h n t ht
  by_cases q2 : a = 2
  · subst q2; exact do2 h n t ht
  by_cases q3 : a = 3
  · subst q3; exact do3 h n t ht
  by_cases q4 : a = 4
  · subst q4
    by_cases hl : L = []
    · exact do4a h n t ht hl
    · exact do4b h n t ht hl
  exact do5 h a n t q0 q1 q2 q3 q4
end
end Go.Proofs.Ytpalbccoiejmoaa.Yg
