/- Proves what the reader's command returns, for an Op of the other sets of parts. Conditions: the table is laid; few bytes. -/
import Derived.Test.YtefadkdngcbpiaaDoorQca
namespace Go.Proofs.YtefadkdngcbpiaaDoor.Qc
open Go.RowKit Vm Ap Vw Va Vc Vp Vn Vs Gc Mi Mb Qm Qs Qe Qd Qy

set_option maxRecDepth 100000 in
set_option maxHeartbeats 4000000 in
theorem cmd1 (B k : Nat) (hk : k < 15) (hm : maskN k = 1) (p : Bs) (w : World) (g h : Nat) (he : Env w) (hq : Rq B w g h (some p)) :
    Calls Tryd.prog 45 #[.pointer (some ⟨h, 0, none⟩), .int .i64 ((k : Int) + 1)] w (tkC B w g h (rdAll [107] (bare ((k : Int) + 1)) p)) := by
  have hmk := he.mask k hk
  rw [hm] at hmk
  have hg0 := he.size
  have hhl := hq.lt
  have hgl : g < w.heap.size := by obtain ⟨l, hr, _⟩ := hq.rd; exact hr.lt
  obtain ⟨w0, hw0⟩ : ∃ w0, w0 = (w.alloc (comO zeroC)).alloc (comO (startC ((k : Int) + 1))) := ⟨_, rfl⟩
  have B0 : Below w.heap.size w w0 := by rw [hw0]; exact two_below _ _ _
  have BX0 : Hid (Box w0 (w.heap.size + 1) (startC ((k : Int) + 1))) := by
    have hb := Box.new (w.alloc (comO zeroC)) (startC ((k : Int) + 1))
    have e : (w.alloc (comO zeroC)).heap.size = w.heap.size + 1 := by simp
    rw [e] at hb
    show Box _ _ _
    rw [hw0]; exact hb
  have BZ0 : Hid (Box w0 w.heap.size zeroC) := by show Box _ _ _; rw [hw0]; exact (Box.new w zeroC).below (alloc_below _ _) (Nat.le_refl _)
  have RQ0 := Lib.hid (hq.below B0 (Nat.le_refl _))
  have HT0 : Hid (Only (Two g h) w w0) := Only.of_below B0 (Nat.le_refl _) _
  have hz0 : w.heap.size + 2 ≤ w0.heap.size := by rw [hw0]; simp
  have ST0 : Hid ((some p) = (rdAll [] (bare ((k : Int) + 1)) p).map (·.2) ∧ ∀ q, rdAll [] (bare ((k : Int) + 1)) p = some q → q.1 = (startC ((k : Int) + 1)).c) := ⟨rfl, fun q hq => by cases hq; rfl⟩
  have e0 : comO zeroC = .cells #[.int .i64 0, .string ⟨#[]⟩, .slice none 0 0, .slice none 0 0, .slice none 0 0, .int .u64 0, .int .u64 0, .string ⟨#[]⟩, .string ⟨#[]⟩, .string ⟨#[]⟩] 28 := rfl
  have e1 : comO (startC ((k : Int) + 1)) = .cells #[.int .i64 ((k : Int) + 1), .string ⟨#[]⟩, .slice none 0 0, .slice none 0 0, .slice none 0 0, .int .u64 0, .int .u64 0, .string ⟨#[]⟩, .string ⟨#[]⟩, .string ⟨#[]⟩] 28 := rfl
  rw [e0, e1] at hw0
  clear e0 e1
  have hkk : (k : Int) + 1 ≤ 15 := by omega
  clear B0 hq he hm
  go_enter Tryd.func45, Tryd.ntmps45
  go_wp2_with fail
  rw [← hw0]
  clear hw0
  refine (has_mask 1 0 1 1 true _ (by omega) rfl (by omega) rfl (by decide)).mono ?_
  rintro e wx ⟨rfl, rfl⟩
  go_wp2_with fail
  refine (text_r B _ g h _ RQ0.out).mono ?_
  rintro e y1 ⟨p1, rfl, a1, b1, c1, d1⟩
  have HTy1 : Only (Two g h) w y1 := HT0.out.trans (d1.mono (fun j _ e => Or.inl e))
  have byx1 := BX0.out.only d1 (by intro e; rcases e with e | e <;> omega)
  have byz1 := BZ0.out.only d1 (by intro e; rcases e with e | e <;> omega)
  have hzy1 : w.heap.size + 2 ≤ y1.heap.size := by have := d1.size; omega
  have BX1 := Lib.hid (Box_set0 byx1 p1)
  have BB1 : Below (w.heap.size + 1) y1 (y1.setCell ⟨w.heap.size + 1, 1, none⟩ (.string ⟨p1.toArray⟩)) := Below.setCell (Below.refl (w.heap.size + 1) y1) (show w.heap.size + 1 ≤ (⟨w.heap.size + 1, 1, none⟩ : Addr).block from Nat.le_refl _) (.string ⟨p1.toArray⟩)
  have PB1 : Only (fun j => j = w.heap.size + 1) y1 (y1.setCell ⟨w.heap.size + 1, 1, none⟩ (.string ⟨p1.toArray⟩)) := Only.put (F := fun j => j = w.heap.size + 1) (ad := ⟨w.heap.size + 1, 1, none⟩) (Only.refl _ _) rfl (.string ⟨p1.toArray⟩)
  have BZ1 := Lib.hid (byz1.only PB1 (by intro e; omega))
  have HT1 : Hid (Only (Two g h) w (y1.setCell ⟨w.heap.size + 1, 1, none⟩ (.string ⟨p1.toArray⟩))) := HTy1.setCell (Or.inr (by show w.heap.size ≤ w.heap.size + 1; omega)) _
  have st1 := more_part rdS ST0.out.1 ST0.out.2 (y := 107) (fun c v => { c with key := v }) (fun c l => by unfold rdPart; simp (decide := true) only [if_true, if_false]) b1
  rw [← rdAll_snoc] at st1
  obtain ⟨s1, hs1⟩ : ∃ s, s = ((some p).bind rdS).map (·.2) := ⟨_, rfl⟩
  rw [← hs1] at st1 c1
  have ST1 : Hid (s1 = (rdAll [107] (bare ((k : Int) + 1)) p).map (·.2) ∧ ∀ q, rdAll [107] (bare ((k : Int) + 1)) p = some q → q.1 = (⟨(k : Int) + 1, p1, [], [], [], 0, 0, [], [], []⟩ : Cmd)) := st1
  have RQ1 := Lib.hid (Rq.low c1 BB1 (by omega) (by omega))
  have AL1 := Lib.hid a1
  have hzu1c : w.heap.size + 2 ≤ (y1.setCell ⟨w.heap.size + 1, 1, none⟩ (.string ⟨p1.toArray⟩)).heap.size := by simp; omega
  obtain ⟨x0_1, x1_1, x2_1, x3_1, x4_1, x5_1, x6_1, x7_1, x8_1, x9_1, un_1⟩ := byx1
  have fz := un_1 1
  clear  a1 b1 c1 d1 HTy1 byz1 BB1 PB1 st1 hs1 
  go_wp2_with fail
  clear x0_1 x1_1 x2_1 x3_1 x4_1 x5_1 x6_1 x7_1 x8_1 x9_1 un_1 fz
  obtain ⟨u1, hu1⟩ : ∃ u, u = (y1.setCell ⟨w.heap.size + 1, 1, none⟩ (.string ⟨p1.toArray⟩)) := ⟨_, rfl⟩
  rw [← hu1] at BX1 BZ1 RQ1 HT1 hzu1c 
  try rw [← hu1]
  clear hu1
  refine (has_mask 1 1 1 2 false _ (by omega) rfl (by omega) rfl (by decide)).mono ?_
  rintro e wx ⟨rfl, rfl⟩
  go_wp2_with fail
  refine (has_mask 1 2 1 4 false _ (by omega) rfl (by omega) rfl (by decide)).mono ?_
  rintro e wx ⟨rfl, rfl⟩
  go_wp2_with fail
  refine (has_mask 1 3 1 8 false _ (by omega) rfl (by omega) rfl (by decide)).mono ?_
  rintro e wx ⟨rfl, rfl⟩
  go_wp2_with fail
  refine (has_mask 1 4 1 16 false _ (by omega) rfl (by omega) rfl (by decide)).mono ?_
  rintro e wx ⟨rfl, rfl⟩
  go_wp2_with fail
  refine (has_mask 1 5 1 32 false _ (by omega) rfl (by omega) rfl (by decide)).mono ?_
  rintro e wx ⟨rfl, rfl⟩
  go_wp2_with fail
  refine (has_mask 1 6 1 64 false _ (by omega) rfl (by omega) rfl (by decide)).mono ?_
  rintro e wx ⟨rfl, rfl⟩
  go_wp2_with fail
  refine (has_mask 1 7 1 128 false _ (by omega) rfl (by omega) rfl (by decide)).mono ?_
  rintro e wx ⟨rfl, rfl⟩
  go_wp2_with fail
  refine (has_mask 1 8 1 256 false _ (by omega) rfl (by omega) rfl (by decide)).mono ?_
  rintro e wx ⟨rfl, rfl⟩
  obtain ⟨F0, F1, F2, F3, F4, F5, F6, F7, F8, F9, fun_⟩ := BX1.out
  have f0 : u1.cell? ⟨w.heap.size + 1, 0, none⟩ = some (.int .i64 ((k : Int) + 1)) := F0
  have f1 : u1.cell? ⟨w.heap.size + 1, 1, none⟩ = some (.string ⟨p1.toArray⟩) := F1
  have f2 : u1.cell? ⟨w.heap.size + 1, 2, none⟩ = some (.slice none 0 0) := F2
  have f3 : u1.cell? ⟨w.heap.size + 1, 3, none⟩ = some (.slice none 0 0) := F3
  have f4 : u1.cell? ⟨w.heap.size + 1, 4, none⟩ = some (.slice none 0 0) := F4
  have f5 : u1.cell? ⟨w.heap.size + 1, 5, none⟩ = some (.int .u64 0) := F5
  have f6 : u1.cell? ⟨w.heap.size + 1, 6, none⟩ = some (.int .u64 0) := F6
  have f7 : u1.cell? ⟨w.heap.size + 1, 7, none⟩ = some (.string ⟨#[]⟩) := F7
  have f8 : u1.cell? ⟨w.heap.size + 1, 8, none⟩ = some (.string ⟨#[]⟩) := F8
  have f9 : u1.cell? ⟨w.heap.size + 1, 9, none⟩ = some (.string ⟨#[]⟩) := F9
  clear F0 F1 F2 F3 F4 F5 F6 F7 F8 F9
  obtain ⟨z0, z1, z2, z3, z4, z5, z6, z7, z8, z9, zun⟩ := BZ1.out
  have zu0 := zun 0
  have zu1 := zun 1
  have zu2 := zun 2
  have zu3 := zun 3
  have zu4 := zun 4
  have zu5 := zun 5
  have zu6 := zun 6
  have zu7 := zun 7
  have zu8 := zun 8
  have zu9 := zun 9
  go_wp2_with fail
  have HF := put10 u1 w.heap.size (.int .i64 ((k : Int) + 1)) (.string ⟨p1.toArray⟩) (.slice none 0 0) (.slice none 0 0) (.slice none 0 0) (.int .u64 0) (.int .u64 0) (.string ⟨#[]⟩) (.string ⟨#[]⟩) (.string ⟨#[]⟩)
  have HZ : u1.heap.size = (((((((((((u1.setCell ⟨w.heap.size, 0, none⟩ (.int .i64 ((k : Int) + 1))).setCell ⟨w.heap.size, 1, none⟩ (.string ⟨p1.toArray⟩)).setCell ⟨w.heap.size, 2, none⟩ (.slice none 0 0)).setCell ⟨w.heap.size, 3, none⟩ (.slice none 0 0)).setCell ⟨w.heap.size, 4, none⟩ (.slice none 0 0)).setCell ⟨w.heap.size, 5, none⟩ (.int .u64 0)).setCell ⟨w.heap.size, 6, none⟩ (.int .u64 0)).setCell ⟨w.heap.size, 7, none⟩ (.string ⟨#[]⟩)).setCell ⟨w.heap.size, 8, none⟩ (.string ⟨#[]⟩)).setCell ⟨w.heap.size, 9, none⟩ (.string ⟨#[]⟩))).heap.size := by simp
  refine bodyPost_ret (v := .agg #[.int .i64 ((k : Int) + 1), .string ⟨p1.toArray⟩, .slice none 0 0, .slice none 0 0, .slice none 0 0, .int .u64 0, .int .u64 0, .string ⟨#[]⟩, .string ⟨#[]⟩, .string ⟨#[]⟩]) (by simp [results, Tryd.results45, go_sem, z0, z1, z2, z3, z4, z5, z6, z7, z8, z9]) rfl ⟨⟨(⟨(k : Int) + 1, p1, [], [], [], 0, 0, [], [], []⟩ : Cmd), none, 0, none, 0, none, 0⟩, rfl, ?_, ST1.out.2, ?_, ?_⟩
  · refine ⟨⟨(Rd.nil _ _), (fun _ => rfl), (Rb.nil _ _), (fun _ => rfl), (Rd.nil _ _), (fun _ => rfl)⟩, ⟨by show _ ≤ (k : Int) + 1; omega, by show (k : Int) + 1 ≤ _; omega, (by have := AL1.out; show p1.length ≤ _; omega), (Nat.zero_le _), (Nat.zero_le _), (Nat.zero_le _), (Nat.zero_le _), (Nat.zero_le _), (Nat.zero_le _), (fun s hs => by cases hs), (fun s hs => by cases hs), (by show 0 < 18446744073709551616; omega), (by show 0 < 18446744073709551616; omega)⟩, (Nat.zero_le _), (Nat.zero_le _), (fun a ha => by cases ha), (fun a ha => by cases ha), (fun a ha => by cases ha)⟩
  · rw [← ST1.out.1]; exact Rq.low RQ1.out (HF.below (B := w.heap.size) (fun j e => by omega) (by omega)) hgl hhl
  · exact HT1.out.trans (HF.mono (fun j _ e => Or.inr (by omega)))
set_option maxRecDepth 100000 in
set_option maxHeartbeats 4000000 in
theorem cmd4 (B k : Nat) (hk : k < 15) (hm : maskN k = 4) (p : Bs) (w : World) (g h : Nat) (he : Env w) (hq : Rq B w g h (some p)) :
    Calls Tryd.prog 45 #[.pointer (some ⟨h, 0, none⟩), .int .i64 ((k : Int) + 1)] w (tkC B w g h (rdAll [109] (bare ((k : Int) + 1)) p)) := by
  have hmk := he.mask k hk
  rw [hm] at hmk
  have hg0 := he.size
  have hhl := hq.lt
  have hgl : g < w.heap.size := by obtain ⟨l, hr, _⟩ := hq.rd; exact hr.lt
  obtain ⟨w0, hw0⟩ : ∃ w0, w0 = (w.alloc (comO zeroC)).alloc (comO (startC ((k : Int) + 1))) := ⟨_, rfl⟩
  have B0 : Below w.heap.size w w0 := by rw [hw0]; exact two_below _ _ _
  have BX0 : Hid (Box w0 (w.heap.size + 1) (startC ((k : Int) + 1))) := by
    have hb := Box.new (w.alloc (comO zeroC)) (startC ((k : Int) + 1))
    have e : (w.alloc (comO zeroC)).heap.size = w.heap.size + 1 := by simp
    rw [e] at hb
    show Box _ _ _
    rw [hw0]; exact hb
  have BZ0 : Hid (Box w0 w.heap.size zeroC) := by show Box _ _ _; rw [hw0]; exact (Box.new w zeroC).below (alloc_below _ _) (Nat.le_refl _)
  have RQ0 := Lib.hid (hq.below B0 (Nat.le_refl _))
  have HT0 : Hid (Only (Two g h) w w0) := Only.of_below B0 (Nat.le_refl _) _
  have hz0 : w.heap.size + 2 ≤ w0.heap.size := by rw [hw0]; simp
  have ST0 : Hid ((some p) = (rdAll [] (bare ((k : Int) + 1)) p).map (·.2) ∧ ∀ q, rdAll [] (bare ((k : Int) + 1)) p = some q → q.1 = (startC ((k : Int) + 1)).c) := ⟨rfl, fun q hq => by cases hq; rfl⟩
  have e0 : comO zeroC = .cells #[.int .i64 0, .string ⟨#[]⟩, .slice none 0 0, .slice none 0 0, .slice none 0 0, .int .u64 0, .int .u64 0, .string ⟨#[]⟩, .string ⟨#[]⟩, .string ⟨#[]⟩] 28 := rfl
  have e1 : comO (startC ((k : Int) + 1)) = .cells #[.int .i64 ((k : Int) + 1), .string ⟨#[]⟩, .slice none 0 0, .slice none 0 0, .slice none 0 0, .int .u64 0, .int .u64 0, .string ⟨#[]⟩, .string ⟨#[]⟩, .string ⟨#[]⟩] 28 := rfl
  rw [e0, e1] at hw0
  clear e0 e1
  have hkk : (k : Int) + 1 ≤ 15 := by omega
  clear B0 hq he hm
  go_enter Tryd.func45, Tryd.ntmps45
  go_wp2_with fail
  rw [← hw0]
  clear hw0
  refine (has_mask 4 0 4 1 false _ (by omega) rfl (by omega) rfl (by decide)).mono ?_
  rintro e wx ⟨rfl, rfl⟩
  go_wp2_with fail
  refine (has_mask 4 1 4 2 false _ (by omega) rfl (by omega) rfl (by decide)).mono ?_
  rintro e wx ⟨rfl, rfl⟩
  go_wp2_with fail
  refine (has_mask 4 2 4 4 true _ (by omega) rfl (by omega) rfl (by decide)).mono ?_
  rintro e wx ⟨rfl, rfl⟩
  go_wp2_with fail
  refine (list_r B _ g h _ RQ0.out).mono ?_
  rintro e y1 ⟨v1, p1, rfl, o1, i1, a1, b1, c1, d1⟩
  have HTy1 : Only (Two g h) w y1 := HT0.out.trans (d1.mono (fun j _ e => Or.inl e))
  have byx1 := BX0.out.only d1 (by intro e; rcases e with e | e <;> omega)
  have byz1 := BZ0.out.only d1 (by intro e; rcases e with e | e <;> omega)
  have hzy1 : w.heap.size + 2 ≤ y1.heap.size := by have := d1.size; omega
  obtain ⟨X1, e1, sh1⟩ := ows_shape o1
  obtain rfl := sh1.val
  have BX1 := Lib.hid (Box_set2 byx1 p1 X1 e1)
  have BB1 : Below (w.heap.size + 1) y1 (y1.setCell ⟨w.heap.size + 1, 2, none⟩ (.slice X1 p1.length e1)) := Below.setCell (Below.refl (w.heap.size + 1) y1) (show w.heap.size + 1 ≤ (⟨w.heap.size + 1, 2, none⟩ : Addr).block from Nat.le_refl _) (.slice X1 p1.length e1)
  have PB1 : Only (fun j => j = w.heap.size + 1) y1 (y1.setCell ⟨w.heap.size + 1, 2, none⟩ (.slice X1 p1.length e1)) := Only.put (F := fun j => j = w.heap.size + 1) (ad := ⟨w.heap.size + 1, 2, none⟩) (Only.refl _ _) rfl (.slice X1 p1.length e1)
  have BZ1 := Lib.hid (byz1.only PB1 (by intro e; omega))
  have HT1 : Hid (Only (Two g h) w (y1.setCell ⟨w.heap.size + 1, 2, none⟩ (.slice X1 p1.length e1))) := HTy1.setCell (Or.inr (by show w.heap.size ≤ w.heap.size + 1; omega)) _
  have st1 := more_part rdL ST0.out.1 ST0.out.2 (y := 109) (fun c v => { c with keys := v }) (fun c l => by unfold rdPart; simp (decide := true) only [if_true, if_false]) b1
  rw [← rdAll_snoc] at st1
  obtain ⟨s1, hs1⟩ : ∃ s, s = ((some p).bind rdL).map (·.2) := ⟨_, rfl⟩
  rw [← hs1] at st1 c1
  have ST1 : Hid (s1 = (rdAll [109] (bare ((k : Int) + 1)) p).map (·.2) ∧ ∀ q, rdAll [109] (bare ((k : Int) + 1)) p = some q → q.1 = (⟨(k : Int) + 1, [], p1, [], [], 0, 0, [], [], []⟩ : Cmd)) := st1
  have RQ1 := Lib.hid (Rq.low c1 BB1 (by omega) (by omega))
  have AL1 := Lib.hid a1
  have IL1 := Lib.hid i1
  have SB1 : Hid (∀ a, X1 = some a → w.heap.size + 2 ≤ a.block ∧ True) := fun a ha => ⟨by have := (sh1.base a ha).1; have hz := hz0; omega, trivial⟩
  have SN1 := Lib.hid sh1.non
  have SR1 : Hid (Rd (y1.setCell ⟨w.heap.size + 1, 2, none⟩ (.slice X1 p1.length e1)) X1 p1) := Rd.only sh1.rd PB1 (fun a ha e => by have := (SB1.out a ha).1; omega)
  have SZ1 : Hid (∀ a, X1 = some a → a.block < (y1.setCell ⟨w.heap.size + 1, 2, none⟩ (.slice X1 p1.length e1)).heap.size) := fun a ha => by have := (sh1.base a ha).2; simp; omega
  have hzu1c : w.heap.size + 2 ≤ (y1.setCell ⟨w.heap.size + 1, 2, none⟩ (.slice X1 p1.length e1)).heap.size := by simp; omega
  obtain ⟨x0_1, x1_1, x2_1, x3_1, x4_1, x5_1, x6_1, x7_1, x8_1, x9_1, un_1⟩ := byx1
  have fz := un_1 2
  clear sh1 o1 a1 b1 c1 d1 HTy1 byz1 BB1 PB1 st1 hs1 i1
  go_wp2_with fail
  clear x0_1 x1_1 x2_1 x3_1 x4_1 x5_1 x6_1 x7_1 x8_1 x9_1 un_1 fz
  obtain ⟨u1, hu1⟩ : ∃ u, u = (y1.setCell ⟨w.heap.size + 1, 2, none⟩ (.slice X1 p1.length e1)) := ⟨_, rfl⟩
  rw [← hu1] at BX1 BZ1 RQ1 HT1 hzu1c SR1 SZ1
  try rw [← hu1]
  clear hu1
  refine (has_mask 4 3 4 8 false _ (by omega) rfl (by omega) rfl (by decide)).mono ?_
  rintro e wx ⟨rfl, rfl⟩
  go_wp2_with fail
  refine (has_mask 4 4 4 16 false _ (by omega) rfl (by omega) rfl (by decide)).mono ?_
  rintro e wx ⟨rfl, rfl⟩
  go_wp2_with fail
  refine (has_mask 4 5 4 32 false _ (by omega) rfl (by omega) rfl (by decide)).mono ?_
  rintro e wx ⟨rfl, rfl⟩
  go_wp2_with fail
  refine (has_mask 4 6 4 64 false _ (by omega) rfl (by omega) rfl (by decide)).mono ?_
  rintro e wx ⟨rfl, rfl⟩
  go_wp2_with fail
  refine (has_mask 4 7 4 128 false _ (by omega) rfl (by omega) rfl (by decide)).mono ?_
  rintro e wx ⟨rfl, rfl⟩
  go_wp2_with fail
  refine (has_mask 4 8 4 256 false _ (by omega) rfl (by omega) rfl (by decide)).mono ?_
  rintro e wx ⟨rfl, rfl⟩
  obtain ⟨F0, F1, F2, F3, F4, F5, F6, F7, F8, F9, fun_⟩ := BX1.out
  have f0 : u1.cell? ⟨w.heap.size + 1, 0, none⟩ = some (.int .i64 ((k : Int) + 1)) := F0
  have f1 : u1.cell? ⟨w.heap.size + 1, 1, none⟩ = some (.string ⟨#[]⟩) := F1
  have f2 : u1.cell? ⟨w.heap.size + 1, 2, none⟩ = some (.slice X1 p1.length e1) := F2
  have f3 : u1.cell? ⟨w.heap.size + 1, 3, none⟩ = some (.slice none 0 0) := F3
  have f4 : u1.cell? ⟨w.heap.size + 1, 4, none⟩ = some (.slice none 0 0) := F4
  have f5 : u1.cell? ⟨w.heap.size + 1, 5, none⟩ = some (.int .u64 0) := F5
  have f6 : u1.cell? ⟨w.heap.size + 1, 6, none⟩ = some (.int .u64 0) := F6
  have f7 : u1.cell? ⟨w.heap.size + 1, 7, none⟩ = some (.string ⟨#[]⟩) := F7
  have f8 : u1.cell? ⟨w.heap.size + 1, 8, none⟩ = some (.string ⟨#[]⟩) := F8
  have f9 : u1.cell? ⟨w.heap.size + 1, 9, none⟩ = some (.string ⟨#[]⟩) := F9
  clear F0 F1 F2 F3 F4 F5 F6 F7 F8 F9
  obtain ⟨z0, z1, z2, z3, z4, z5, z6, z7, z8, z9, zun⟩ := BZ1.out
  have zu0 := zun 0
  have zu1 := zun 1
  have zu2 := zun 2
  have zu3 := zun 3
  have zu4 := zun 4
  have zu5 := zun 5
  have zu6 := zun 6
  have zu7 := zun 7
  have zu8 := zun 8
  have zu9 := zun 9
  go_wp2_with fail
  have HF := put10 u1 w.heap.size (.int .i64 ((k : Int) + 1)) (.string ⟨#[]⟩) (.slice X1 p1.length e1) (.slice none 0 0) (.slice none 0 0) (.int .u64 0) (.int .u64 0) (.string ⟨#[]⟩) (.string ⟨#[]⟩) (.string ⟨#[]⟩)
  have HZ : u1.heap.size = (((((((((((u1.setCell ⟨w.heap.size, 0, none⟩ (.int .i64 ((k : Int) + 1))).setCell ⟨w.heap.size, 1, none⟩ (.string ⟨#[]⟩)).setCell ⟨w.heap.size, 2, none⟩ (.slice X1 p1.length e1)).setCell ⟨w.heap.size, 3, none⟩ (.slice none 0 0)).setCell ⟨w.heap.size, 4, none⟩ (.slice none 0 0)).setCell ⟨w.heap.size, 5, none⟩ (.int .u64 0)).setCell ⟨w.heap.size, 6, none⟩ (.int .u64 0)).setCell ⟨w.heap.size, 7, none⟩ (.string ⟨#[]⟩)).setCell ⟨w.heap.size, 8, none⟩ (.string ⟨#[]⟩)).setCell ⟨w.heap.size, 9, none⟩ (.string ⟨#[]⟩))).heap.size := by simp
  refine bodyPost_ret (v := .agg #[.int .i64 ((k : Int) + 1), .string ⟨#[]⟩, .slice X1 p1.length e1, .slice none 0 0, .slice none 0 0, .int .u64 0, .int .u64 0, .string ⟨#[]⟩, .string ⟨#[]⟩, .string ⟨#[]⟩]) (by simp [results, Tryd.results45, go_sem, z0, z1, z2, z3, z4, z5, z6, z7, z8, z9]) rfl ⟨⟨(⟨(k : Int) + 1, [], p1, [], [], 0, 0, [], [], []⟩ : Cmd), X1, e1, none, 0, none, 0⟩, rfl, ?_, ST1.out.2, ?_, ?_⟩
  · refine ⟨⟨(Rd.only SR1.out HF (fun a ha e => by have := (SB1.out a ha).1; omega)), (SN1.out), (Rb.nil _ _), (fun _ => rfl), (Rd.nil _ _), (fun _ => rfl)⟩, ⟨by show _ ≤ (k : Int) + 1; omega, by show (k : Int) + 1 ≤ _; omega, (Nat.zero_le _), (Nat.zero_le _), (Nat.zero_le _), (Nat.zero_le _), (Nat.zero_le _), (by have := IL1.out; show p1.length ≤ _; omega), (Nat.zero_le _), (fun s hs => by have := AL1.out s hs; omega), (fun s hs => by cases hs), (by show 0 < 18446744073709551616; omega), (by show 0 < 18446744073709551616; omega)⟩, (by have := IL1.out; show p1.length ≤ _; omega), (Nat.zero_le _), (fun a ha => ⟨by have := (SB1.out a ha).1; omega, by have := SZ1.out a ha; rw [← HZ]; exact this⟩), (fun a ha => by cases ha), (fun a ha => by cases ha)⟩
  · rw [← ST1.out.1]; exact Rq.low RQ1.out (HF.below (B := w.heap.size) (fun j e => by omega) (by omega)) hgl hhl
  · exact HT1.out.trans (HF.mono (fun j _ e => Or.inr (by omega)))
set_option maxRecDepth 100000 in
set_option maxHeartbeats 4000000 in
theorem cmd33 (B k : Nat) (hk : k < 15) (hm : maskN k = 33) (p : Bs) (w : World) (g h : Nat) (he : Env w) (hq : Rq B w g h (some p)) :
    Calls Tryd.prog 45 #[.pointer (some ⟨h, 0, none⟩), .int .i64 ((k : Int) + 1)] w (tkC B w g h (rdAll [107, 108] (bare ((k : Int) + 1)) p)) := by
  have hmk := he.mask k hk
  rw [hm] at hmk
  have hg0 := he.size
  have hhl := hq.lt
  have hgl : g < w.heap.size := by obtain ⟨l, hr, _⟩ := hq.rd; exact hr.lt
  obtain ⟨w0, hw0⟩ : ∃ w0, w0 = (w.alloc (comO zeroC)).alloc (comO (startC ((k : Int) + 1))) := ⟨_, rfl⟩
  have B0 : Below w.heap.size w w0 := by rw [hw0]; exact two_below _ _ _
  have BX0 : Hid (Box w0 (w.heap.size + 1) (startC ((k : Int) + 1))) := by
    have hb := Box.new (w.alloc (comO zeroC)) (startC ((k : Int) + 1))
    have e : (w.alloc (comO zeroC)).heap.size = w.heap.size + 1 := by simp
    rw [e] at hb
    show Box _ _ _
    rw [hw0]; exact hb
  have BZ0 : Hid (Box w0 w.heap.size zeroC) := by show Box _ _ _; rw [hw0]; exact (Box.new w zeroC).below (alloc_below _ _) (Nat.le_refl _)
  have RQ0 := Lib.hid (hq.below B0 (Nat.le_refl _))
  have HT0 : Hid (Only (Two g h) w w0) := Only.of_below B0 (Nat.le_refl _) _
  have hz0 : w.heap.size + 2 ≤ w0.heap.size := by rw [hw0]; simp
  have ST0 : Hid ((some p) = (rdAll [] (bare ((k : Int) + 1)) p).map (·.2) ∧ ∀ q, rdAll [] (bare ((k : Int) + 1)) p = some q → q.1 = (startC ((k : Int) + 1)).c) := ⟨rfl, fun q hq => by cases hq; rfl⟩
  have e0 : comO zeroC = .cells #[.int .i64 0, .string ⟨#[]⟩, .slice none 0 0, .slice none 0 0, .slice none 0 0, .int .u64 0, .int .u64 0, .string ⟨#[]⟩, .string ⟨#[]⟩, .string ⟨#[]⟩] 28 := rfl
  have e1 : comO (startC ((k : Int) + 1)) = .cells #[.int .i64 ((k : Int) + 1), .string ⟨#[]⟩, .slice none 0 0, .slice none 0 0, .slice none 0 0, .int .u64 0, .int .u64 0, .string ⟨#[]⟩, .string ⟨#[]⟩, .string ⟨#[]⟩] 28 := rfl
  rw [e0, e1] at hw0
  clear e0 e1
  have hkk : (k : Int) + 1 ≤ 15 := by omega
  clear B0 hq he hm
  go_enter Tryd.func45, Tryd.ntmps45
  go_wp2_with fail
  rw [← hw0]
  clear hw0
  refine (has_mask 33 0 33 1 true _ (by omega) rfl (by omega) rfl (by decide)).mono ?_
  rintro e wx ⟨rfl, rfl⟩
  go_wp2_with fail
  refine (text_r B _ g h _ RQ0.out).mono ?_
  rintro e y1 ⟨p1, rfl, a1, b1, c1, d1⟩
  have HTy1 : Only (Two g h) w y1 := HT0.out.trans (d1.mono (fun j _ e => Or.inl e))
  have byx1 := BX0.out.only d1 (by intro e; rcases e with e | e <;> omega)
  have byz1 := BZ0.out.only d1 (by intro e; rcases e with e | e <;> omega)
  have hzy1 : w.heap.size + 2 ≤ y1.heap.size := by have := d1.size; omega
  have BX1 := Lib.hid (Box_set0 byx1 p1)
  have BB1 : Below (w.heap.size + 1) y1 (y1.setCell ⟨w.heap.size + 1, 1, none⟩ (.string ⟨p1.toArray⟩)) := Below.setCell (Below.refl (w.heap.size + 1) y1) (show w.heap.size + 1 ≤ (⟨w.heap.size + 1, 1, none⟩ : Addr).block from Nat.le_refl _) (.string ⟨p1.toArray⟩)
  have PB1 : Only (fun j => j = w.heap.size + 1) y1 (y1.setCell ⟨w.heap.size + 1, 1, none⟩ (.string ⟨p1.toArray⟩)) := Only.put (F := fun j => j = w.heap.size + 1) (ad := ⟨w.heap.size + 1, 1, none⟩) (Only.refl _ _) rfl (.string ⟨p1.toArray⟩)
  have BZ1 := Lib.hid (byz1.only PB1 (by intro e; omega))
  have HT1 : Hid (Only (Two g h) w (y1.setCell ⟨w.heap.size + 1, 1, none⟩ (.string ⟨p1.toArray⟩))) := HTy1.setCell (Or.inr (by show w.heap.size ≤ w.heap.size + 1; omega)) _
  have st1 := more_part rdS ST0.out.1 ST0.out.2 (y := 107) (fun c v => { c with key := v }) (fun c l => by unfold rdPart; simp (decide := true) only [if_true, if_false]) b1
  rw [← rdAll_snoc] at st1
  obtain ⟨s1, hs1⟩ : ∃ s, s = ((some p).bind rdS).map (·.2) := ⟨_, rfl⟩
  rw [← hs1] at st1 c1
  have ST1 : Hid (s1 = (rdAll [107] (bare ((k : Int) + 1)) p).map (·.2) ∧ ∀ q, rdAll [107] (bare ((k : Int) + 1)) p = some q → q.1 = (⟨(k : Int) + 1, p1, [], [], [], 0, 0, [], [], []⟩ : Cmd)) := st1
  have RQ1 := Lib.hid (Rq.low c1 BB1 (by omega) (by omega))
  have AL1 := Lib.hid a1
  have hzu1c : w.heap.size + 2 ≤ (y1.setCell ⟨w.heap.size + 1, 1, none⟩ (.string ⟨p1.toArray⟩)).heap.size := by simp; omega
  obtain ⟨x0_1, x1_1, x2_1, x3_1, x4_1, x5_1, x6_1, x7_1, x8_1, x9_1, un_1⟩ := byx1
  have fz := un_1 1
  clear  a1 b1 c1 d1 HTy1 byz1 BB1 PB1 st1 hs1 
  go_wp2_with fail
  clear x0_1 x1_1 x2_1 x3_1 x4_1 x5_1 x6_1 x7_1 x8_1 x9_1 un_1 fz
  obtain ⟨u1, hu1⟩ : ∃ u, u = (y1.setCell ⟨w.heap.size + 1, 1, none⟩ (.string ⟨p1.toArray⟩)) := ⟨_, rfl⟩
  rw [← hu1] at BX1 BZ1 RQ1 HT1 hzu1c 
  try rw [← hu1]
  clear hu1
  refine (has_mask 33 1 33 2 false _ (by omega) rfl (by omega) rfl (by decide)).mono ?_
  rintro e wx ⟨rfl, rfl⟩
  go_wp2_with fail
  refine (has_mask 33 2 33 4 false _ (by omega) rfl (by omega) rfl (by decide)).mono ?_
  rintro e wx ⟨rfl, rfl⟩
  go_wp2_with fail
  refine (has_mask 33 3 33 8 false _ (by omega) rfl (by omega) rfl (by decide)).mono ?_
  rintro e wx ⟨rfl, rfl⟩
  go_wp2_with fail
  refine (has_mask 33 4 33 16 false _ (by omega) rfl (by omega) rfl (by decide)).mono ?_
  rintro e wx ⟨rfl, rfl⟩
  go_wp2_with fail
  refine (has_mask 33 5 33 32 true _ (by omega) rfl (by omega) rfl (by decide)).mono ?_
  rintro e wx ⟨rfl, rfl⟩
  go_wp2_with fail
  refine (number_r B _ g h _ RQ1.out).mono ?_
  rintro e y2 ⟨p2, rfl, a2, b2, c2, d2⟩
  have HTy2 : Only (Two g h) w y2 := HT1.out.trans (d2.mono (fun j _ e => Or.inl e))
  have byx2 := BX1.out.only d2 (by intro e; rcases e with e | e <;> omega)
  have byz2 := BZ1.out.only d2 (by intro e; rcases e with e | e <;> omega)
  have hzy2 : w.heap.size + 2 ≤ y2.heap.size := by have := d2.size; omega
  have BX2 := Lib.hid (Box_set5 byx2 p2)
  have BB2 : Below (w.heap.size + 1) y2 (y2.setCell ⟨w.heap.size + 1, 5, none⟩ (.int .u64 (p2 : Int))) := Below.setCell (Below.refl (w.heap.size + 1) y2) (show w.heap.size + 1 ≤ (⟨w.heap.size + 1, 5, none⟩ : Addr).block from Nat.le_refl _) (.int .u64 (p2 : Int))
  have PB2 : Only (fun j => j = w.heap.size + 1) y2 (y2.setCell ⟨w.heap.size + 1, 5, none⟩ (.int .u64 (p2 : Int))) := Only.put (F := fun j => j = w.heap.size + 1) (ad := ⟨w.heap.size + 1, 5, none⟩) (Only.refl _ _) rfl (.int .u64 (p2 : Int))
  have BZ2 := Lib.hid (byz2.only PB2 (by intro e; omega))
  have HT2 : Hid (Only (Two g h) w (y2.setCell ⟨w.heap.size + 1, 5, none⟩ (.int .u64 (p2 : Int)))) := HTy2.setCell (Or.inr (by show w.heap.size ≤ w.heap.size + 1; omega)) _
  have st2 := more_part rdN ST1.out.1 ST1.out.2 (y := 108) (fun c v => { c with life := v }) (fun c l => by unfold rdPart; simp (decide := true) only [if_true, if_false]) b2
  rw [← rdAll_snoc] at st2
  obtain ⟨s2, hs2⟩ : ∃ s, s = (s1.bind rdN).map (·.2) := ⟨_, rfl⟩
  rw [← hs2] at st2 c2
  have ST2 : Hid (s2 = (rdAll [107, 108] (bare ((k : Int) + 1)) p).map (·.2) ∧ ∀ q, rdAll [107, 108] (bare ((k : Int) + 1)) p = some q → q.1 = (⟨(k : Int) + 1, p1, [], [], [], p2, 0, [], [], []⟩ : Cmd)) := st2
  have RQ2 := Lib.hid (Rq.low c2 BB2 (by omega) (by omega))
  have AL2 := Lib.hid a2
  have hzu2c : w.heap.size + 2 ≤ (y2.setCell ⟨w.heap.size + 1, 5, none⟩ (.int .u64 (p2 : Int))).heap.size := by simp; omega
  obtain ⟨x0_2, x1_2, x2_2, x3_2, x4_2, x5_2, x6_2, x7_2, x8_2, x9_2, un_2⟩ := byx2
  have fz := un_2 5
  clear  a2 b2 c2 d2 HTy2 byz2 BB2 PB2 st2 hs2 
  go_wp2_with fail
  clear x0_2 x1_2 x2_2 x3_2 x4_2 x5_2 x6_2 x7_2 x8_2 x9_2 un_2 fz
  obtain ⟨u2, hu2⟩ : ∃ u, u = (y2.setCell ⟨w.heap.size + 1, 5, none⟩ (.int .u64 (p2 : Int))) := ⟨_, rfl⟩
  rw [← hu2] at BX2 BZ2 RQ2 HT2 hzu2c 
  try rw [← hu2]
  clear hu2
  refine (has_mask 33 6 33 64 false _ (by omega) rfl (by omega) rfl (by decide)).mono ?_
  rintro e wx ⟨rfl, rfl⟩
  go_wp2_with fail
  refine (has_mask 33 7 33 128 false _ (by omega) rfl (by omega) rfl (by decide)).mono ?_
  rintro e wx ⟨rfl, rfl⟩
  go_wp2_with fail
  refine (has_mask 33 8 33 256 false _ (by omega) rfl (by omega) rfl (by decide)).mono ?_
  rintro e wx ⟨rfl, rfl⟩
  obtain ⟨F0, F1, F2, F3, F4, F5, F6, F7, F8, F9, fun_⟩ := BX2.out
  have f0 : u2.cell? ⟨w.heap.size + 1, 0, none⟩ = some (.int .i64 ((k : Int) + 1)) := F0
  have f1 : u2.cell? ⟨w.heap.size + 1, 1, none⟩ = some (.string ⟨p1.toArray⟩) := F1
  have f2 : u2.cell? ⟨w.heap.size + 1, 2, none⟩ = some (.slice none 0 0) := F2
  have f3 : u2.cell? ⟨w.heap.size + 1, 3, none⟩ = some (.slice none 0 0) := F3
  have f4 : u2.cell? ⟨w.heap.size + 1, 4, none⟩ = some (.slice none 0 0) := F4
  have f5 : u2.cell? ⟨w.heap.size + 1, 5, none⟩ = some (.int .u64 (p2 : Int)) := F5
  have f6 : u2.cell? ⟨w.heap.size + 1, 6, none⟩ = some (.int .u64 0) := F6
  have f7 : u2.cell? ⟨w.heap.size + 1, 7, none⟩ = some (.string ⟨#[]⟩) := F7
  have f8 : u2.cell? ⟨w.heap.size + 1, 8, none⟩ = some (.string ⟨#[]⟩) := F8
  have f9 : u2.cell? ⟨w.heap.size + 1, 9, none⟩ = some (.string ⟨#[]⟩) := F9
  clear F0 F1 F2 F3 F4 F5 F6 F7 F8 F9
  obtain ⟨z0, z1, z2, z3, z4, z5, z6, z7, z8, z9, zun⟩ := BZ2.out
  have zu0 := zun 0
  have zu1 := zun 1
  have zu2 := zun 2
  have zu3 := zun 3
  have zu4 := zun 4
  have zu5 := zun 5
  have zu6 := zun 6
  have zu7 := zun 7
  have zu8 := zun 8
  have zu9 := zun 9
  go_wp2_with fail
  have HF := put10 u2 w.heap.size (.int .i64 ((k : Int) + 1)) (.string ⟨p1.toArray⟩) (.slice none 0 0) (.slice none 0 0) (.slice none 0 0) (.int .u64 (p2 : Int)) (.int .u64 0) (.string ⟨#[]⟩) (.string ⟨#[]⟩) (.string ⟨#[]⟩)
  have HZ : u2.heap.size = (((((((((((u2.setCell ⟨w.heap.size, 0, none⟩ (.int .i64 ((k : Int) + 1))).setCell ⟨w.heap.size, 1, none⟩ (.string ⟨p1.toArray⟩)).setCell ⟨w.heap.size, 2, none⟩ (.slice none 0 0)).setCell ⟨w.heap.size, 3, none⟩ (.slice none 0 0)).setCell ⟨w.heap.size, 4, none⟩ (.slice none 0 0)).setCell ⟨w.heap.size, 5, none⟩ (.int .u64 (p2 : Int))).setCell ⟨w.heap.size, 6, none⟩ (.int .u64 0)).setCell ⟨w.heap.size, 7, none⟩ (.string ⟨#[]⟩)).setCell ⟨w.heap.size, 8, none⟩ (.string ⟨#[]⟩)).setCell ⟨w.heap.size, 9, none⟩ (.string ⟨#[]⟩))).heap.size := by simp
  refine bodyPost_ret (v := .agg #[.int .i64 ((k : Int) + 1), .string ⟨p1.toArray⟩, .slice none 0 0, .slice none 0 0, .slice none 0 0, .int .u64 (p2 : Int), .int .u64 0, .string ⟨#[]⟩, .string ⟨#[]⟩, .string ⟨#[]⟩]) (by simp [results, Tryd.results45, go_sem, z0, z1, z2, z3, z4, z5, z6, z7, z8, z9]) rfl ⟨⟨(⟨(k : Int) + 1, p1, [], [], [], p2, 0, [], [], []⟩ : Cmd), none, 0, none, 0, none, 0⟩, rfl, ?_, ST2.out.2, ?_, ?_⟩
  · refine ⟨⟨(Rd.nil _ _), (fun _ => rfl), (Rb.nil _ _), (fun _ => rfl), (Rd.nil _ _), (fun _ => rfl)⟩, ⟨by show _ ≤ (k : Int) + 1; omega, by show (k : Int) + 1 ≤ _; omega, (by have := AL1.out; show p1.length ≤ _; omega), (Nat.zero_le _), (Nat.zero_le _), (Nat.zero_le _), (Nat.zero_le _), (Nat.zero_le _), (Nat.zero_le _), (fun s hs => by cases hs), (fun s hs => by cases hs), (by have := AL2.out; unfold big at this; exact this), (by show 0 < 18446744073709551616; omega)⟩, (Nat.zero_le _), (Nat.zero_le _), (fun a ha => by cases ha), (fun a ha => by cases ha), (fun a ha => by cases ha)⟩
  · rw [← ST2.out.1]; exact Rq.low RQ2.out (HF.below (B := w.heap.size) (fun j e => by omega) (by omega)) hgl hhl
  · exact HT2.out.trans (HF.mono (fun j _ e => Or.inr (by omega)))
set_option maxRecDepth 100000 in
set_option maxHeartbeats 4000000 in
theorem cmd128 (B k : Nat) (hk : k < 15) (hm : maskN k = 128) (p : Bs) (w : World) (g h : Nat) (he : Env w) (hq : Rq B w g h (some p)) :
    Calls Tryd.prog 45 #[.pointer (some ⟨h, 0, none⟩), .int .i64 ((k : Int) + 1)] w (tkC B w g h (rdAll [103] (bare ((k : Int) + 1)) p)) := by
  have hmk := he.mask k hk
  rw [hm] at hmk
  have hg0 := he.size
  have hhl := hq.lt
  have hgl : g < w.heap.size := by obtain ⟨l, hr, _⟩ := hq.rd; exact hr.lt
  obtain ⟨w0, hw0⟩ : ∃ w0, w0 = (w.alloc (comO zeroC)).alloc (comO (startC ((k : Int) + 1))) := ⟨_, rfl⟩
  have B0 : Below w.heap.size w w0 := by rw [hw0]; exact two_below _ _ _
  have BX0 : Hid (Box w0 (w.heap.size + 1) (startC ((k : Int) + 1))) := by
    have hb := Box.new (w.alloc (comO zeroC)) (startC ((k : Int) + 1))
    have e : (w.alloc (comO zeroC)).heap.size = w.heap.size + 1 := by simp
    rw [e] at hb
    show Box _ _ _
    rw [hw0]; exact hb
  have BZ0 : Hid (Box w0 w.heap.size zeroC) := by show Box _ _ _; rw [hw0]; exact (Box.new w zeroC).below (alloc_below _ _) (Nat.le_refl _)
  have RQ0 := Lib.hid (hq.below B0 (Nat.le_refl _))
  have HT0 : Hid (Only (Two g h) w w0) := Only.of_below B0 (Nat.le_refl _) _
  have hz0 : w.heap.size + 2 ≤ w0.heap.size := by rw [hw0]; simp
  have ST0 : Hid ((some p) = (rdAll [] (bare ((k : Int) + 1)) p).map (·.2) ∧ ∀ q, rdAll [] (bare ((k : Int) + 1)) p = some q → q.1 = (startC ((k : Int) + 1)).c) := ⟨rfl, fun q hq => by cases hq; rfl⟩
  have e0 : comO zeroC = .cells #[.int .i64 0, .string ⟨#[]⟩, .slice none 0 0, .slice none 0 0, .slice none 0 0, .int .u64 0, .int .u64 0, .string ⟨#[]⟩, .string ⟨#[]⟩, .string ⟨#[]⟩] 28 := rfl
  have e1 : comO (startC ((k : Int) + 1)) = .cells #[.int .i64 ((k : Int) + 1), .string ⟨#[]⟩, .slice none 0 0, .slice none 0 0, .slice none 0 0, .int .u64 0, .int .u64 0, .string ⟨#[]⟩, .string ⟨#[]⟩, .string ⟨#[]⟩] 28 := rfl
  rw [e0, e1] at hw0
  clear e0 e1
  have hkk : (k : Int) + 1 ≤ 15 := by omega
  clear B0 hq he hm
  go_enter Tryd.func45, Tryd.ntmps45
  go_wp2_with fail
  rw [← hw0]
  clear hw0
  refine (has_mask 128 0 128 1 false _ (by omega) rfl (by omega) rfl (by decide)).mono ?_
  rintro e wx ⟨rfl, rfl⟩
  go_wp2_with fail
  refine (has_mask 128 1 128 2 false _ (by omega) rfl (by omega) rfl (by decide)).mono ?_
  rintro e wx ⟨rfl, rfl⟩
  go_wp2_with fail
  refine (has_mask 128 2 128 4 false _ (by omega) rfl (by omega) rfl (by decide)).mono ?_
  rintro e wx ⟨rfl, rfl⟩
  go_wp2_with fail
  refine (has_mask 128 3 128 8 false _ (by omega) rfl (by omega) rfl (by decide)).mono ?_
  rintro e wx ⟨rfl, rfl⟩
  go_wp2_with fail
  refine (has_mask 128 4 128 16 false _ (by omega) rfl (by omega) rfl (by decide)).mono ?_
  rintro e wx ⟨rfl, rfl⟩
  go_wp2_with fail
  refine (has_mask 128 5 128 32 false _ (by omega) rfl (by omega) rfl (by decide)).mono ?_
  rintro e wx ⟨rfl, rfl⟩
  go_wp2_with fail
  refine (has_mask 128 6 128 64 false _ (by omega) rfl (by omega) rfl (by decide)).mono ?_
  rintro e wx ⟨rfl, rfl⟩
  go_wp2_with fail
  refine (has_mask 128 7 128 128 true _ (by omega) rfl (by omega) rfl (by decide)).mono ?_
  rintro e wx ⟨rfl, rfl⟩
  go_wp2_with fail
  refine (text_r B _ g h _ RQ0.out).mono ?_
  rintro e y1 ⟨p1, rfl, a1, b1, c1, d1⟩
  have HTy1 : Only (Two g h) w y1 := HT0.out.trans (d1.mono (fun j _ e => Or.inl e))
  have byx1 := BX0.out.only d1 (by intro e; rcases e with e | e <;> omega)
  have byz1 := BZ0.out.only d1 (by intro e; rcases e with e | e <;> omega)
  have hzy1 : w.heap.size + 2 ≤ y1.heap.size := by have := d1.size; omega
  have BX1 := Lib.hid (Box_set7 byx1 p1)
  have BB1 : Below (w.heap.size + 1) y1 (y1.setCell ⟨w.heap.size + 1, 7, none⟩ (.string ⟨p1.toArray⟩)) := Below.setCell (Below.refl (w.heap.size + 1) y1) (show w.heap.size + 1 ≤ (⟨w.heap.size + 1, 7, none⟩ : Addr).block from Nat.le_refl _) (.string ⟨p1.toArray⟩)
  have PB1 : Only (fun j => j = w.heap.size + 1) y1 (y1.setCell ⟨w.heap.size + 1, 7, none⟩ (.string ⟨p1.toArray⟩)) := Only.put (F := fun j => j = w.heap.size + 1) (ad := ⟨w.heap.size + 1, 7, none⟩) (Only.refl _ _) rfl (.string ⟨p1.toArray⟩)
  have BZ1 := Lib.hid (byz1.only PB1 (by intro e; omega))
  have HT1 : Hid (Only (Two g h) w (y1.setCell ⟨w.heap.size + 1, 7, none⟩ (.string ⟨p1.toArray⟩))) := HTy1.setCell (Or.inr (by show w.heap.size ≤ w.heap.size + 1; omega)) _
  have st1 := more_part rdS ST0.out.1 ST0.out.2 (y := 103) (fun c v => { c with tag := v }) (fun c l => by unfold rdPart; simp (decide := true) only [if_true, if_false]) b1
  rw [← rdAll_snoc] at st1
  obtain ⟨s1, hs1⟩ : ∃ s, s = ((some p).bind rdS).map (·.2) := ⟨_, rfl⟩
  rw [← hs1] at st1 c1
  have ST1 : Hid (s1 = (rdAll [103] (bare ((k : Int) + 1)) p).map (·.2) ∧ ∀ q, rdAll [103] (bare ((k : Int) + 1)) p = some q → q.1 = (⟨(k : Int) + 1, [], [], [], [], 0, 0, p1, [], []⟩ : Cmd)) := st1
  have RQ1 := Lib.hid (Rq.low c1 BB1 (by omega) (by omega))
  have AL1 := Lib.hid a1
  have hzu1c : w.heap.size + 2 ≤ (y1.setCell ⟨w.heap.size + 1, 7, none⟩ (.string ⟨p1.toArray⟩)).heap.size := by simp; omega
  obtain ⟨x0_1, x1_1, x2_1, x3_1, x4_1, x5_1, x6_1, x7_1, x8_1, x9_1, un_1⟩ := byx1
  have fz := un_1 7
  clear  a1 b1 c1 d1 HTy1 byz1 BB1 PB1 st1 hs1 
  go_wp2_with fail
  clear x0_1 x1_1 x2_1 x3_1 x4_1 x5_1 x6_1 x7_1 x8_1 x9_1 un_1 fz
  obtain ⟨u1, hu1⟩ : ∃ u, u = (y1.setCell ⟨w.heap.size + 1, 7, none⟩ (.string ⟨p1.toArray⟩)) := ⟨_, rfl⟩
  rw [← hu1] at BX1 BZ1 RQ1 HT1 hzu1c 
  try rw [← hu1]
  clear hu1
  refine (has_mask 128 8 128 256 false _ (by omega) rfl (by omega) rfl (by decide)).mono ?_
  rintro e wx ⟨rfl, rfl⟩
  obtain ⟨F0, F1, F2, F3, F4, F5, F6, F7, F8, F9, fun_⟩ := BX1.out
  have f0 : u1.cell? ⟨w.heap.size + 1, 0, none⟩ = some (.int .i64 ((k : Int) + 1)) := F0
  have f1 : u1.cell? ⟨w.heap.size + 1, 1, none⟩ = some (.string ⟨#[]⟩) := F1
  have f2 : u1.cell? ⟨w.heap.size + 1, 2, none⟩ = some (.slice none 0 0) := F2
  have f3 : u1.cell? ⟨w.heap.size + 1, 3, none⟩ = some (.slice none 0 0) := F3
  have f4 : u1.cell? ⟨w.heap.size + 1, 4, none⟩ = some (.slice none 0 0) := F4
  have f5 : u1.cell? ⟨w.heap.size + 1, 5, none⟩ = some (.int .u64 0) := F5
  have f6 : u1.cell? ⟨w.heap.size + 1, 6, none⟩ = some (.int .u64 0) := F6
  have f7 : u1.cell? ⟨w.heap.size + 1, 7, none⟩ = some (.string ⟨p1.toArray⟩) := F7
  have f8 : u1.cell? ⟨w.heap.size + 1, 8, none⟩ = some (.string ⟨#[]⟩) := F8
  have f9 : u1.cell? ⟨w.heap.size + 1, 9, none⟩ = some (.string ⟨#[]⟩) := F9
  clear F0 F1 F2 F3 F4 F5 F6 F7 F8 F9
  obtain ⟨z0, z1, z2, z3, z4, z5, z6, z7, z8, z9, zun⟩ := BZ1.out
  have zu0 := zun 0
  have zu1 := zun 1
  have zu2 := zun 2
  have zu3 := zun 3
  have zu4 := zun 4
  have zu5 := zun 5
  have zu6 := zun 6
  have zu7 := zun 7
  have zu8 := zun 8
  have zu9 := zun 9
  go_wp2_with fail
  have HF := put10 u1 w.heap.size (.int .i64 ((k : Int) + 1)) (.string ⟨#[]⟩) (.slice none 0 0) (.slice none 0 0) (.slice none 0 0) (.int .u64 0) (.int .u64 0) (.string ⟨p1.toArray⟩) (.string ⟨#[]⟩) (.string ⟨#[]⟩)
  have HZ : u1.heap.size = (((((((((((u1.setCell ⟨w.heap.size, 0, none⟩ (.int .i64 ((k : Int) + 1))).setCell ⟨w.heap.size, 1, none⟩ (.string ⟨#[]⟩)).setCell ⟨w.heap.size, 2, none⟩ (.slice none 0 0)).setCell ⟨w.heap.size, 3, none⟩ (.slice none 0 0)).setCell ⟨w.heap.size, 4, none⟩ (.slice none 0 0)).setCell ⟨w.heap.size, 5, none⟩ (.int .u64 0)).setCell ⟨w.heap.size, 6, none⟩ (.int .u64 0)).setCell ⟨w.heap.size, 7, none⟩ (.string ⟨p1.toArray⟩)).setCell ⟨w.heap.size, 8, none⟩ (.string ⟨#[]⟩)).setCell ⟨w.heap.size, 9, none⟩ (.string ⟨#[]⟩))).heap.size := by simp
  refine bodyPost_ret (v := .agg #[.int .i64 ((k : Int) + 1), .string ⟨#[]⟩, .slice none 0 0, .slice none 0 0, .slice none 0 0, .int .u64 0, .int .u64 0, .string ⟨p1.toArray⟩, .string ⟨#[]⟩, .string ⟨#[]⟩]) (by simp [results, Tryd.results45, go_sem, z0, z1, z2, z3, z4, z5, z6, z7, z8, z9]) rfl ⟨⟨(⟨(k : Int) + 1, [], [], [], [], 0, 0, p1, [], []⟩ : Cmd), none, 0, none, 0, none, 0⟩, rfl, ?_, ST1.out.2, ?_, ?_⟩
  · refine ⟨⟨(Rd.nil _ _), (fun _ => rfl), (Rb.nil _ _), (fun _ => rfl), (Rd.nil _ _), (fun _ => rfl)⟩, ⟨by show _ ≤ (k : Int) + 1; omega, by show (k : Int) + 1 ≤ _; omega, (Nat.zero_le _), (Nat.zero_le _), (by have := AL1.out; show p1.length ≤ _; omega), (Nat.zero_le _), (Nat.zero_le _), (Nat.zero_le _), (Nat.zero_le _), (fun s hs => by cases hs), (fun s hs => by cases hs), (by show 0 < 18446744073709551616; omega), (by show 0 < 18446744073709551616; omega)⟩, (Nat.zero_le _), (Nat.zero_le _), (fun a ha => by cases ha), (fun a ha => by cases ha), (fun a ha => by cases ha)⟩
  · rw [← ST1.out.1]; exact Rq.low RQ1.out (HF.below (B := w.heap.size) (fun j e => by omega) (by omega)) hgl hhl
  · exact HT1.out.trans (HF.mono (fun j _ e => Or.inr (by omega)))
set_option maxRecDepth 100000 in
set_option maxHeartbeats 4000000 in
theorem cmd256 (B k : Nat) (hk : k < 15) (hm : maskN k = 256) (p : Bs) (w : World) (g h : Nat) (he : Env w) (hq : Rq B w g h (some p)) :
    Calls Tryd.prog 45 #[.pointer (some ⟨h, 0, none⟩), .int .i64 ((k : Int) + 1)] w (tkC B w g h (rdAll [112] (bare ((k : Int) + 1)) p)) := by
  have hmk := he.mask k hk
  rw [hm] at hmk
  have hg0 := he.size
  have hhl := hq.lt
  have hgl : g < w.heap.size := by obtain ⟨l, hr, _⟩ := hq.rd; exact hr.lt
  obtain ⟨w0, hw0⟩ : ∃ w0, w0 = (w.alloc (comO zeroC)).alloc (comO (startC ((k : Int) + 1))) := ⟨_, rfl⟩
  have B0 : Below w.heap.size w w0 := by rw [hw0]; exact two_below _ _ _
  have BX0 : Hid (Box w0 (w.heap.size + 1) (startC ((k : Int) + 1))) := by
    have hb := Box.new (w.alloc (comO zeroC)) (startC ((k : Int) + 1))
    have e : (w.alloc (comO zeroC)).heap.size = w.heap.size + 1 := by simp
    rw [e] at hb
    show Box _ _ _
    rw [hw0]; exact hb
  have BZ0 : Hid (Box w0 w.heap.size zeroC) := by show Box _ _ _; rw [hw0]; exact (Box.new w zeroC).below (alloc_below _ _) (Nat.le_refl _)
  have RQ0 := Lib.hid (hq.below B0 (Nat.le_refl _))
  have HT0 : Hid (Only (Two g h) w w0) := Only.of_below B0 (Nat.le_refl _) _
  have hz0 : w.heap.size + 2 ≤ w0.heap.size := by rw [hw0]; simp
  have ST0 : Hid ((some p) = (rdAll [] (bare ((k : Int) + 1)) p).map (·.2) ∧ ∀ q, rdAll [] (bare ((k : Int) + 1)) p = some q → q.1 = (startC ((k : Int) + 1)).c) := ⟨rfl, fun q hq => by cases hq; rfl⟩
  have e0 : comO zeroC = .cells #[.int .i64 0, .string ⟨#[]⟩, .slice none 0 0, .slice none 0 0, .slice none 0 0, .int .u64 0, .int .u64 0, .string ⟨#[]⟩, .string ⟨#[]⟩, .string ⟨#[]⟩] 28 := rfl
  have e1 : comO (startC ((k : Int) + 1)) = .cells #[.int .i64 ((k : Int) + 1), .string ⟨#[]⟩, .slice none 0 0, .slice none 0 0, .slice none 0 0, .int .u64 0, .int .u64 0, .string ⟨#[]⟩, .string ⟨#[]⟩, .string ⟨#[]⟩] 28 := rfl
  rw [e0, e1] at hw0
  clear e0 e1
  have hkk : (k : Int) + 1 ≤ 15 := by omega
  clear B0 hq he hm
  go_enter Tryd.func45, Tryd.ntmps45
  go_wp2_with fail
  rw [← hw0]
  clear hw0
  refine (has_mask 256 0 256 1 false _ (by omega) rfl (by omega) rfl (by decide)).mono ?_
  rintro e wx ⟨rfl, rfl⟩
  go_wp2_with fail
  refine (has_mask 256 1 256 2 false _ (by omega) rfl (by omega) rfl (by decide)).mono ?_
  rintro e wx ⟨rfl, rfl⟩
  go_wp2_with fail
  refine (has_mask 256 2 256 4 false _ (by omega) rfl (by omega) rfl (by decide)).mono ?_
  rintro e wx ⟨rfl, rfl⟩
  go_wp2_with fail
  refine (has_mask 256 3 256 8 false _ (by omega) rfl (by omega) rfl (by decide)).mono ?_
  rintro e wx ⟨rfl, rfl⟩
  go_wp2_with fail
  refine (has_mask 256 4 256 16 false _ (by omega) rfl (by omega) rfl (by decide)).mono ?_
  rintro e wx ⟨rfl, rfl⟩
  go_wp2_with fail
  refine (has_mask 256 5 256 32 false _ (by omega) rfl (by omega) rfl (by decide)).mono ?_
  rintro e wx ⟨rfl, rfl⟩
  go_wp2_with fail
  refine (has_mask 256 6 256 64 false _ (by omega) rfl (by omega) rfl (by decide)).mono ?_
  rintro e wx ⟨rfl, rfl⟩
  go_wp2_with fail
  refine (has_mask 256 7 256 128 false _ (by omega) rfl (by omega) rfl (by decide)).mono ?_
  rintro e wx ⟨rfl, rfl⟩
  go_wp2_with fail
  refine (has_mask 256 8 256 256 true _ (by omega) rfl (by omega) rfl (by decide)).mono ?_
  rintro e wx ⟨rfl, rfl⟩
  go_wp2_with fail
  refine (text_r B _ g h _ RQ0.out).mono ?_
  rintro e y1 ⟨p1, rfl, a1, b1, c1, d1⟩
  have HTy1 : Only (Two g h) w y1 := HT0.out.trans (d1.mono (fun j _ e => Or.inl e))
  have byx1 := BX0.out.only d1 (by intro e; rcases e with e | e <;> omega)
  have byz1 := BZ0.out.only d1 (by intro e; rcases e with e | e <;> omega)
  have hzy1 : w.heap.size + 2 ≤ y1.heap.size := by have := d1.size; omega
  have BX1 := Lib.hid (Box_set8 byx1 p1)
  have BB1 : Below (w.heap.size + 1) y1 (y1.setCell ⟨w.heap.size + 1, 8, none⟩ (.string ⟨p1.toArray⟩)) := Below.setCell (Below.refl (w.heap.size + 1) y1) (show w.heap.size + 1 ≤ (⟨w.heap.size + 1, 8, none⟩ : Addr).block from Nat.le_refl _) (.string ⟨p1.toArray⟩)
  have PB1 : Only (fun j => j = w.heap.size + 1) y1 (y1.setCell ⟨w.heap.size + 1, 8, none⟩ (.string ⟨p1.toArray⟩)) := Only.put (F := fun j => j = w.heap.size + 1) (ad := ⟨w.heap.size + 1, 8, none⟩) (Only.refl _ _) rfl (.string ⟨p1.toArray⟩)
  have BZ1 := Lib.hid (byz1.only PB1 (by intro e; omega))
  have HT1 : Hid (Only (Two g h) w (y1.setCell ⟨w.heap.size + 1, 8, none⟩ (.string ⟨p1.toArray⟩))) := HTy1.setCell (Or.inr (by show w.heap.size ≤ w.heap.size + 1; omega)) _
  have st1 := more_part rdS ST0.out.1 ST0.out.2 (y := 112) (fun c v => { c with pre := v }) (fun c l => by unfold rdPart; simp (decide := true) only [if_true, if_false]) b1
  rw [← rdAll_snoc] at st1
  obtain ⟨s1, hs1⟩ : ∃ s, s = ((some p).bind rdS).map (·.2) := ⟨_, rfl⟩
  rw [← hs1] at st1 c1
  have ST1 : Hid (s1 = (rdAll [112] (bare ((k : Int) + 1)) p).map (·.2) ∧ ∀ q, rdAll [112] (bare ((k : Int) + 1)) p = some q → q.1 = (⟨(k : Int) + 1, [], [], [], [], 0, 0, [], p1, []⟩ : Cmd)) := st1
  have RQ1 := Lib.hid (Rq.low c1 BB1 (by omega) (by omega))
  have AL1 := Lib.hid a1
  have hzu1c : w.heap.size + 2 ≤ (y1.setCell ⟨w.heap.size + 1, 8, none⟩ (.string ⟨p1.toArray⟩)).heap.size := by simp; omega
  obtain ⟨x0_1, x1_1, x2_1, x3_1, x4_1, x5_1, x6_1, x7_1, x8_1, x9_1, un_1⟩ := byx1
  have fz := un_1 8
  have f0 : y1.cell? ⟨w.heap.size + 1, 0, none⟩ = some (.int .i64 ((k : Int) + 1)) := x0_1
  have f1 : y1.cell? ⟨w.heap.size + 1, 1, none⟩ = some (.string ⟨#[]⟩) := x1_1
  have f2 : y1.cell? ⟨w.heap.size + 1, 2, none⟩ = some (.slice none 0 0) := x2_1
  have f3 : y1.cell? ⟨w.heap.size + 1, 3, none⟩ = some (.slice none 0 0) := x3_1
  have f4 : y1.cell? ⟨w.heap.size + 1, 4, none⟩ = some (.slice none 0 0) := x4_1
  have f5 : y1.cell? ⟨w.heap.size + 1, 5, none⟩ = some (.int .u64 0) := x5_1
  have f6 : y1.cell? ⟨w.heap.size + 1, 6, none⟩ = some (.int .u64 0) := x6_1
  have f7 : y1.cell? ⟨w.heap.size + 1, 7, none⟩ = some (.string ⟨#[]⟩) := x7_1
  have f8 : y1.cell? ⟨w.heap.size + 1, 8, none⟩ = some (.string ⟨#[]⟩) := x8_1
  have f9 : y1.cell? ⟨w.heap.size + 1, 9, none⟩ = some (.string ⟨#[]⟩) := x9_1
  clear x0_1 x1_1 x2_1 x3_1 x4_1 x5_1 x6_1 x7_1 x8_1 x9_1
  have byy := byz1
  obtain ⟨z0, z1, z2, z3, z4, z5, z6, z7, z8, z9, zun⟩ := byy
  have zu0 := zun 0
  have zu1 := zun 1
  have zu2 := zun 2
  have zu3 := zun 3
  have zu4 := zun 4
  have zu5 := zun 5
  have zu6 := zun 6
  have zu7 := zun 7
  have zu8 := zun 8
  have zu9 := zun 9
  clear  a1 b1 c1 d1 HTy1 byz1 BB1 PB1 st1 hs1 
  go_wp2_with fail
  clear z0 z1 z2 z3 z4 z5 z6 z7 z8 z9 zu0 zu1 zu2 zu3 zu4 zu5 zu6 zu7 zu8 zu9 zun
  obtain ⟨u1, hu1⟩ : ∃ u, u = (y1.setCell ⟨w.heap.size + 1, 8, none⟩ (.string ⟨p1.toArray⟩)) := ⟨_, rfl⟩
  rw [← hu1] at BX1 BZ1 RQ1 HT1 hzu1c 
  try rw [← hu1]
  clear hu1
  obtain ⟨z0, z1, z2, z3, z4, z5, z6, z7, z8, z9, zun⟩ := BZ1.out
  have zu0 := zun 0
  have zu1 := zun 1
  have zu2 := zun 2
  have zu3 := zun 3
  have zu4 := zun 4
  have zu5 := zun 5
  have zu6 := zun 6
  have zu7 := zun 7
  have zu8 := zun 8
  have zu9 := zun 9
  have HF := put10 u1 w.heap.size (.int .i64 ((k : Int) + 1)) (.string ⟨#[]⟩) (.slice none 0 0) (.slice none 0 0) (.slice none 0 0) (.int .u64 0) (.int .u64 0) (.string ⟨#[]⟩) (.string ⟨p1.toArray⟩) (.string ⟨#[]⟩)
  have HZ : u1.heap.size = (((((((((((u1.setCell ⟨w.heap.size, 0, none⟩ (.int .i64 ((k : Int) + 1))).setCell ⟨w.heap.size, 1, none⟩ (.string ⟨#[]⟩)).setCell ⟨w.heap.size, 2, none⟩ (.slice none 0 0)).setCell ⟨w.heap.size, 3, none⟩ (.slice none 0 0)).setCell ⟨w.heap.size, 4, none⟩ (.slice none 0 0)).setCell ⟨w.heap.size, 5, none⟩ (.int .u64 0)).setCell ⟨w.heap.size, 6, none⟩ (.int .u64 0)).setCell ⟨w.heap.size, 7, none⟩ (.string ⟨#[]⟩)).setCell ⟨w.heap.size, 8, none⟩ (.string ⟨p1.toArray⟩)).setCell ⟨w.heap.size, 9, none⟩ (.string ⟨#[]⟩))).heap.size := by simp
  refine bodyPost_ret (v := .agg #[.int .i64 ((k : Int) + 1), .string ⟨#[]⟩, .slice none 0 0, .slice none 0 0, .slice none 0 0, .int .u64 0, .int .u64 0, .string ⟨#[]⟩, .string ⟨p1.toArray⟩, .string ⟨#[]⟩]) (by simp [results, Tryd.results45, go_sem, z0, z1, z2, z3, z4, z5, z6, z7, z8, z9]) rfl ⟨⟨(⟨(k : Int) + 1, [], [], [], [], 0, 0, [], p1, []⟩ : Cmd), none, 0, none, 0, none, 0⟩, rfl, ?_, ST1.out.2, ?_, ?_⟩
  · refine ⟨⟨(Rd.nil _ _), (fun _ => rfl), (Rb.nil _ _), (fun _ => rfl), (Rd.nil _ _), (fun _ => rfl)⟩, ⟨by show _ ≤ (k : Int) + 1; omega, by show (k : Int) + 1 ≤ _; omega, (Nat.zero_le _), (Nat.zero_le _), (Nat.zero_le _), (by have := AL1.out; show p1.length ≤ _; omega), (Nat.zero_le _), (Nat.zero_le _), (Nat.zero_le _), (fun s hs => by cases hs), (fun s hs => by cases hs), (by show 0 < 18446744073709551616; omega), (by show 0 < 18446744073709551616; omega)⟩, (Nat.zero_le _), (Nat.zero_le _), (fun a ha => by cases ha), (fun a ha => by cases ha), (fun a ha => by cases ha)⟩
  · rw [← ST1.out.1]; exact Rq.low RQ1.out (HF.below (B := w.heap.size) (fun j e => by omega) (by omega)) hgl hhl
  · exact HT1.out.trans (HF.mono (fun j _ e => Or.inr (by omega)))
set_option maxRecDepth 100000 in
set_option maxHeartbeats 4000000 in
theorem cmd3 (B k : Nat) (hk : k < 15) (hm : maskN k = 3) (p : Bs) (w : World) (g h : Nat) (he : Env w) (hq : Rq B w g h (some p)) :
    Calls Tryd.prog 45 #[.pointer (some ⟨h, 0, none⟩), .int .i64 ((k : Int) + 1)] w (tkC B w g h (rdAll [107, 99] (bare ((k : Int) + 1)) p)) := by
  have hmk := he.mask k hk
  rw [hm] at hmk
  have hg0 := he.size
  have hhl := hq.lt
  have hgl : g < w.heap.size := by obtain ⟨l, hr, _⟩ := hq.rd; exact hr.lt
  obtain ⟨w0, hw0⟩ : ∃ w0, w0 = (w.alloc (comO zeroC)).alloc (comO (startC ((k : Int) + 1))) := ⟨_, rfl⟩
  have B0 : Below w.heap.size w w0 := by rw [hw0]; exact two_below _ _ _
  have BX0 : Hid (Box w0 (w.heap.size + 1) (startC ((k : Int) + 1))) := by
    have hb := Box.new (w.alloc (comO zeroC)) (startC ((k : Int) + 1))
    have e : (w.alloc (comO zeroC)).heap.size = w.heap.size + 1 := by simp
    rw [e] at hb
    show Box _ _ _
    rw [hw0]; exact hb
  have BZ0 : Hid (Box w0 w.heap.size zeroC) := by show Box _ _ _; rw [hw0]; exact (Box.new w zeroC).below (alloc_below _ _) (Nat.le_refl _)
  have RQ0 := Lib.hid (hq.below B0 (Nat.le_refl _))
  have HT0 : Hid (Only (Two g h) w w0) := Only.of_below B0 (Nat.le_refl _) _
  have hz0 : w.heap.size + 2 ≤ w0.heap.size := by rw [hw0]; simp
  have ST0 : Hid ((some p) = (rdAll [] (bare ((k : Int) + 1)) p).map (·.2) ∧ ∀ q, rdAll [] (bare ((k : Int) + 1)) p = some q → q.1 = (startC ((k : Int) + 1)).c) := ⟨rfl, fun q hq => by cases hq; rfl⟩
  have e0 : comO zeroC = .cells #[.int .i64 0, .string ⟨#[]⟩, .slice none 0 0, .slice none 0 0, .slice none 0 0, .int .u64 0, .int .u64 0, .string ⟨#[]⟩, .string ⟨#[]⟩, .string ⟨#[]⟩] 28 := rfl
  have e1 : comO (startC ((k : Int) + 1)) = .cells #[.int .i64 ((k : Int) + 1), .string ⟨#[]⟩, .slice none 0 0, .slice none 0 0, .slice none 0 0, .int .u64 0, .int .u64 0, .string ⟨#[]⟩, .string ⟨#[]⟩, .string ⟨#[]⟩] 28 := rfl
  rw [e0, e1] at hw0
  clear e0 e1
  have hkk : (k : Int) + 1 ≤ 15 := by omega
  clear B0 hq he hm
  go_enter Tryd.func45, Tryd.ntmps45
  go_wp2_with fail
  rw [← hw0]
  clear hw0
  refine (has_mask 3 0 3 1 true _ (by omega) rfl (by omega) rfl (by decide)).mono ?_
  rintro e wx ⟨rfl, rfl⟩
  go_wp2_with fail
  refine (text_r B _ g h _ RQ0.out).mono ?_
  rintro e y1 ⟨p1, rfl, a1, b1, c1, d1⟩
  have HTy1 : Only (Two g h) w y1 := HT0.out.trans (d1.mono (fun j _ e => Or.inl e))
  have byx1 := BX0.out.only d1 (by intro e; rcases e with e | e <;> omega)
  have byz1 := BZ0.out.only d1 (by intro e; rcases e with e | e <;> omega)
  have hzy1 : w.heap.size + 2 ≤ y1.heap.size := by have := d1.size; omega
  have BX1 := Lib.hid (Box_set0 byx1 p1)
  have BB1 : Below (w.heap.size + 1) y1 (y1.setCell ⟨w.heap.size + 1, 1, none⟩ (.string ⟨p1.toArray⟩)) := Below.setCell (Below.refl (w.heap.size + 1) y1) (show w.heap.size + 1 ≤ (⟨w.heap.size + 1, 1, none⟩ : Addr).block from Nat.le_refl _) (.string ⟨p1.toArray⟩)
  have PB1 : Only (fun j => j = w.heap.size + 1) y1 (y1.setCell ⟨w.heap.size + 1, 1, none⟩ (.string ⟨p1.toArray⟩)) := Only.put (F := fun j => j = w.heap.size + 1) (ad := ⟨w.heap.size + 1, 1, none⟩) (Only.refl _ _) rfl (.string ⟨p1.toArray⟩)
  have BZ1 := Lib.hid (byz1.only PB1 (by intro e; omega))
  have HT1 : Hid (Only (Two g h) w (y1.setCell ⟨w.heap.size + 1, 1, none⟩ (.string ⟨p1.toArray⟩))) := HTy1.setCell (Or.inr (by show w.heap.size ≤ w.heap.size + 1; omega)) _
  have st1 := more_part rdS ST0.out.1 ST0.out.2 (y := 107) (fun c v => { c with key := v }) (fun c l => by unfold rdPart; simp (decide := true) only [if_true, if_false]) b1
  rw [← rdAll_snoc] at st1
  obtain ⟨s1, hs1⟩ : ∃ s, s = ((some p).bind rdS).map (·.2) := ⟨_, rfl⟩
  rw [← hs1] at st1 c1
  have ST1 : Hid (s1 = (rdAll [107] (bare ((k : Int) + 1)) p).map (·.2) ∧ ∀ q, rdAll [107] (bare ((k : Int) + 1)) p = some q → q.1 = (⟨(k : Int) + 1, p1, [], [], [], 0, 0, [], [], []⟩ : Cmd)) := st1
  have RQ1 := Lib.hid (Rq.low c1 BB1 (by omega) (by omega))
  have AL1 := Lib.hid a1
  have hzu1c : w.heap.size + 2 ≤ (y1.setCell ⟨w.heap.size + 1, 1, none⟩ (.string ⟨p1.toArray⟩)).heap.size := by simp; omega
  obtain ⟨x0_1, x1_1, x2_1, x3_1, x4_1, x5_1, x6_1, x7_1, x8_1, x9_1, un_1⟩ := byx1
  have fz := un_1 1
  clear  a1 b1 c1 d1 HTy1 byz1 BB1 PB1 st1 hs1 
  go_wp2_with fail
  clear x0_1 x1_1 x2_1 x3_1 x4_1 x5_1 x6_1 x7_1 x8_1 x9_1 un_1 fz
  obtain ⟨u1, hu1⟩ : ∃ u, u = (y1.setCell ⟨w.heap.size + 1, 1, none⟩ (.string ⟨p1.toArray⟩)) := ⟨_, rfl⟩
  rw [← hu1] at BX1 BZ1 RQ1 HT1 hzu1c 
  try rw [← hu1]
  clear hu1
  refine (has_mask 3 1 3 2 true _ (by omega) rfl (by omega) rfl (by decide)).mono ?_
  rintro e wx ⟨rfl, rfl⟩
  go_wp2_with fail
  refine (text_r B _ g h _ RQ1.out).mono ?_
  rintro e y2 ⟨p2, rfl, a2, b2, c2, d2⟩
  have HTy2 : Only (Two g h) w y2 := HT1.out.trans (d2.mono (fun j _ e => Or.inl e))
  have byx2 := BX1.out.only d2 (by intro e; rcases e with e | e <;> omega)
  have byz2 := BZ1.out.only d2 (by intro e; rcases e with e | e <;> omega)
  have hzy2 : w.heap.size + 2 ≤ y2.heap.size := by have := d2.size; omega
  have BX2 := Lib.hid (Box_set1 byx2 p2)
  have BB2 : Below (w.heap.size + 1) y2 (y2.setCell ⟨w.heap.size + 1, 9, none⟩ (.string ⟨p2.toArray⟩)) := Below.setCell (Below.refl (w.heap.size + 1) y2) (show w.heap.size + 1 ≤ (⟨w.heap.size + 1, 9, none⟩ : Addr).block from Nat.le_refl _) (.string ⟨p2.toArray⟩)
  have PB2 : Only (fun j => j = w.heap.size + 1) y2 (y2.setCell ⟨w.heap.size + 1, 9, none⟩ (.string ⟨p2.toArray⟩)) := Only.put (F := fun j => j = w.heap.size + 1) (ad := ⟨w.heap.size + 1, 9, none⟩) (Only.refl _ _) rfl (.string ⟨p2.toArray⟩)
  have BZ2 := Lib.hid (byz2.only PB2 (by intro e; omega))
  have HT2 : Hid (Only (Two g h) w (y2.setCell ⟨w.heap.size + 1, 9, none⟩ (.string ⟨p2.toArray⟩))) := HTy2.setCell (Or.inr (by show w.heap.size ≤ w.heap.size + 1; omega)) _
  have st2 := more_part rdS ST1.out.1 ST1.out.2 (y := 99) (fun c v => { c with child := v }) (fun c l => by unfold rdPart; simp (decide := true) only [if_false]) b2
  rw [← rdAll_snoc] at st2
  obtain ⟨s2, hs2⟩ : ∃ s, s = (s1.bind rdS).map (·.2) := ⟨_, rfl⟩
  rw [← hs2] at st2 c2
  have ST2 : Hid (s2 = (rdAll [107, 99] (bare ((k : Int) + 1)) p).map (·.2) ∧ ∀ q, rdAll [107, 99] (bare ((k : Int) + 1)) p = some q → q.1 = (⟨(k : Int) + 1, p1, [], [], [], 0, 0, [], [], p2⟩ : Cmd)) := st2
  have RQ2 := Lib.hid (Rq.low c2 BB2 (by omega) (by omega))
  have AL2 := Lib.hid a2
  have hzu2c : w.heap.size + 2 ≤ (y2.setCell ⟨w.heap.size + 1, 9, none⟩ (.string ⟨p2.toArray⟩)).heap.size := by simp; omega
  obtain ⟨x0_2, x1_2, x2_2, x3_2, x4_2, x5_2, x6_2, x7_2, x8_2, x9_2, un_2⟩ := byx2
  have fz := un_2 9
  clear  a2 b2 c2 d2 HTy2 byz2 BB2 PB2 st2 hs2 
  go_wp2_with fail
  clear x0_2 x1_2 x2_2 x3_2 x4_2 x5_2 x6_2 x7_2 x8_2 x9_2 un_2 fz
  obtain ⟨u2, hu2⟩ : ∃ u, u = (y2.setCell ⟨w.heap.size + 1, 9, none⟩ (.string ⟨p2.toArray⟩)) := ⟨_, rfl⟩
  rw [← hu2] at BX2 BZ2 RQ2 HT2 hzu2c 
  try rw [← hu2]
  clear hu2
  refine (has_mask 3 2 3 4 false _ (by omega) rfl (by omega) rfl (by decide)).mono ?_
  rintro e wx ⟨rfl, rfl⟩
  go_wp2_with fail
  refine (has_mask 3 3 3 8 false _ (by omega) rfl (by omega) rfl (by decide)).mono ?_
  rintro e wx ⟨rfl, rfl⟩
  go_wp2_with fail
  refine (has_mask 3 4 3 16 false _ (by omega) rfl (by omega) rfl (by decide)).mono ?_
  rintro e wx ⟨rfl, rfl⟩
  go_wp2_with fail
  refine (has_mask 3 5 3 32 false _ (by omega) rfl (by omega) rfl (by decide)).mono ?_
  rintro e wx ⟨rfl, rfl⟩
  go_wp2_with fail
  refine (has_mask 3 6 3 64 false _ (by omega) rfl (by omega) rfl (by decide)).mono ?_
  rintro e wx ⟨rfl, rfl⟩
  go_wp2_with fail
  refine (has_mask 3 7 3 128 false _ (by omega) rfl (by omega) rfl (by decide)).mono ?_
  rintro e wx ⟨rfl, rfl⟩
  go_wp2_with fail
  refine (has_mask 3 8 3 256 false _ (by omega) rfl (by omega) rfl (by decide)).mono ?_
  rintro e wx ⟨rfl, rfl⟩
  obtain ⟨F0, F1, F2, F3, F4, F5, F6, F7, F8, F9, fun_⟩ := BX2.out
  have f0 : u2.cell? ⟨w.heap.size + 1, 0, none⟩ = some (.int .i64 ((k : Int) + 1)) := F0
  have f1 : u2.cell? ⟨w.heap.size + 1, 1, none⟩ = some (.string ⟨p1.toArray⟩) := F1
  have f2 : u2.cell? ⟨w.heap.size + 1, 2, none⟩ = some (.slice none 0 0) := F2
  have f3 : u2.cell? ⟨w.heap.size + 1, 3, none⟩ = some (.slice none 0 0) := F3
  have f4 : u2.cell? ⟨w.heap.size + 1, 4, none⟩ = some (.slice none 0 0) := F4
  have f5 : u2.cell? ⟨w.heap.size + 1, 5, none⟩ = some (.int .u64 0) := F5
  have f6 : u2.cell? ⟨w.heap.size + 1, 6, none⟩ = some (.int .u64 0) := F6
  have f7 : u2.cell? ⟨w.heap.size + 1, 7, none⟩ = some (.string ⟨#[]⟩) := F7
  have f8 : u2.cell? ⟨w.heap.size + 1, 8, none⟩ = some (.string ⟨#[]⟩) := F8
  have f9 : u2.cell? ⟨w.heap.size + 1, 9, none⟩ = some (.string ⟨p2.toArray⟩) := F9
  clear F0 F1 F2 F3 F4 F5 F6 F7 F8 F9
  obtain ⟨z0, z1, z2, z3, z4, z5, z6, z7, z8, z9, zun⟩ := BZ2.out
  have zu0 := zun 0
  have zu1 := zun 1
  have zu2 := zun 2
  have zu3 := zun 3
  have zu4 := zun 4
  have zu5 := zun 5
  have zu6 := zun 6
  have zu7 := zun 7
  have zu8 := zun 8
  have zu9 := zun 9
  go_wp2_with fail
  have HF := put10 u2 w.heap.size (.int .i64 ((k : Int) + 1)) (.string ⟨p1.toArray⟩) (.slice none 0 0) (.slice none 0 0) (.slice none 0 0) (.int .u64 0) (.int .u64 0) (.string ⟨#[]⟩) (.string ⟨#[]⟩) (.string ⟨p2.toArray⟩)
  have HZ : u2.heap.size = (((((((((((u2.setCell ⟨w.heap.size, 0, none⟩ (.int .i64 ((k : Int) + 1))).setCell ⟨w.heap.size, 1, none⟩ (.string ⟨p1.toArray⟩)).setCell ⟨w.heap.size, 2, none⟩ (.slice none 0 0)).setCell ⟨w.heap.size, 3, none⟩ (.slice none 0 0)).setCell ⟨w.heap.size, 4, none⟩ (.slice none 0 0)).setCell ⟨w.heap.size, 5, none⟩ (.int .u64 0)).setCell ⟨w.heap.size, 6, none⟩ (.int .u64 0)).setCell ⟨w.heap.size, 7, none⟩ (.string ⟨#[]⟩)).setCell ⟨w.heap.size, 8, none⟩ (.string ⟨#[]⟩)).setCell ⟨w.heap.size, 9, none⟩ (.string ⟨p2.toArray⟩))).heap.size := by simp
  refine bodyPost_ret (v := .agg #[.int .i64 ((k : Int) + 1), .string ⟨p1.toArray⟩, .slice none 0 0, .slice none 0 0, .slice none 0 0, .int .u64 0, .int .u64 0, .string ⟨#[]⟩, .string ⟨#[]⟩, .string ⟨p2.toArray⟩]) (by simp [results, Tryd.results45, go_sem, z0, z1, z2, z3, z4, z5, z6, z7, z8, z9]) rfl ⟨⟨(⟨(k : Int) + 1, p1, [], [], [], 0, 0, [], [], p2⟩ : Cmd), none, 0, none, 0, none, 0⟩, rfl, ?_, ST2.out.2, ?_, ?_⟩
  · refine ⟨⟨(Rd.nil _ _), (fun _ => rfl), (Rb.nil _ _), (fun _ => rfl), (Rd.nil _ _), (fun _ => rfl)⟩, ⟨by show _ ≤ (k : Int) + 1; omega, by show (k : Int) + 1 ≤ _; omega, (by have := AL1.out; show p1.length ≤ _; omega), (by have := AL2.out; show p2.length ≤ _; omega), (Nat.zero_le _), (Nat.zero_le _), (Nat.zero_le _), (Nat.zero_le _), (Nat.zero_le _), (fun s hs => by cases hs), (fun s hs => by cases hs), (by show 0 < 18446744073709551616; omega), (by show 0 < 18446744073709551616; omega)⟩, (Nat.zero_le _), (Nat.zero_le _), (fun a ha => by cases ha), (fun a ha => by cases ha), (fun a ha => by cases ha)⟩
  · rw [← ST2.out.1]; exact Rq.low RQ2.out (HF.below (B := w.heap.size) (fun j e => by omega) (by omega)) hgl hhl
  · exact HT2.out.trans (HF.mono (fun j _ e => Or.inr (by omega)))
set_option maxRecDepth 100000 in
set_option maxHeartbeats 4000000 in
theorem cmd0 (B k : Nat) (hk : k < 15) (hm : maskN k = 0) (p : Bs) (w : World) (g h : Nat) (he : Env w) (hq : Rq B w g h (some p)) :
    Calls Tryd.prog 45 #[.pointer (some ⟨h, 0, none⟩), .int .i64 ((k : Int) + 1)] w (tkC B w g h (rdAll [] (bare ((k : Int) + 1)) p)) := by
  have hmk := he.mask k hk
  rw [hm] at hmk
  have hg0 := he.size
  have hhl := hq.lt
  have hgl : g < w.heap.size := by obtain ⟨l, hr, _⟩ := hq.rd; exact hr.lt
  obtain ⟨w0, hw0⟩ : ∃ w0, w0 = (w.alloc (comO zeroC)).alloc (comO (startC ((k : Int) + 1))) := ⟨_, rfl⟩
  have B0 : Below w.heap.size w w0 := by rw [hw0]; exact two_below _ _ _
  have BX0 : Hid (Box w0 (w.heap.size + 1) (startC ((k : Int) + 1))) := by
    have hb := Box.new (w.alloc (comO zeroC)) (startC ((k : Int) + 1))
    have e : (w.alloc (comO zeroC)).heap.size = w.heap.size + 1 := by simp
    rw [e] at hb
    show Box _ _ _
    rw [hw0]; exact hb
  have BZ0 : Hid (Box w0 w.heap.size zeroC) := by show Box _ _ _; rw [hw0]; exact (Box.new w zeroC).below (alloc_below _ _) (Nat.le_refl _)
  have RQ0 := Lib.hid (hq.below B0 (Nat.le_refl _))
  have HT0 : Hid (Only (Two g h) w w0) := Only.of_below B0 (Nat.le_refl _) _
  have hz0 : w.heap.size + 2 ≤ w0.heap.size := by rw [hw0]; simp
  have ST0 : Hid ((some p) = (rdAll [] (bare ((k : Int) + 1)) p).map (·.2) ∧ ∀ q, rdAll [] (bare ((k : Int) + 1)) p = some q → q.1 = (startC ((k : Int) + 1)).c) := ⟨rfl, fun q hq => by cases hq; rfl⟩
  have e0 : comO zeroC = .cells #[.int .i64 0, .string ⟨#[]⟩, .slice none 0 0, .slice none 0 0, .slice none 0 0, .int .u64 0, .int .u64 0, .string ⟨#[]⟩, .string ⟨#[]⟩, .string ⟨#[]⟩] 28 := rfl
  have e1 : comO (startC ((k : Int) + 1)) = .cells #[.int .i64 ((k : Int) + 1), .string ⟨#[]⟩, .slice none 0 0, .slice none 0 0, .slice none 0 0, .int .u64 0, .int .u64 0, .string ⟨#[]⟩, .string ⟨#[]⟩, .string ⟨#[]⟩] 28 := rfl
  rw [e0, e1] at hw0
  clear e0 e1
  have hkk : (k : Int) + 1 ≤ 15 := by omega
  clear B0 hq he hm
  go_enter Tryd.func45, Tryd.ntmps45
  go_wp2_with fail
  rw [← hw0]
  clear hw0
  refine (has_mask 0 0 0 1 false _ (by omega) rfl (by omega) rfl (by decide)).mono ?_
  rintro e wx ⟨rfl, rfl⟩
  go_wp2_with fail
  refine (has_mask 0 1 0 2 false _ (by omega) rfl (by omega) rfl (by decide)).mono ?_
  rintro e wx ⟨rfl, rfl⟩
  go_wp2_with fail
  refine (has_mask 0 2 0 4 false _ (by omega) rfl (by omega) rfl (by decide)).mono ?_
  rintro e wx ⟨rfl, rfl⟩
  go_wp2_with fail
  refine (has_mask 0 3 0 8 false _ (by omega) rfl (by omega) rfl (by decide)).mono ?_
  rintro e wx ⟨rfl, rfl⟩
  go_wp2_with fail
  refine (has_mask 0 4 0 16 false _ (by omega) rfl (by omega) rfl (by decide)).mono ?_
  rintro e wx ⟨rfl, rfl⟩
  go_wp2_with fail
  refine (has_mask 0 5 0 32 false _ (by omega) rfl (by omega) rfl (by decide)).mono ?_
  rintro e wx ⟨rfl, rfl⟩
  go_wp2_with fail
  refine (has_mask 0 6 0 64 false _ (by omega) rfl (by omega) rfl (by decide)).mono ?_
  rintro e wx ⟨rfl, rfl⟩
  go_wp2_with fail
  refine (has_mask 0 7 0 128 false _ (by omega) rfl (by omega) rfl (by decide)).mono ?_
  rintro e wx ⟨rfl, rfl⟩
  go_wp2_with fail
  refine (has_mask 0 8 0 256 false _ (by omega) rfl (by omega) rfl (by decide)).mono ?_
  rintro e wx ⟨rfl, rfl⟩
  obtain ⟨F0, F1, F2, F3, F4, F5, F6, F7, F8, F9, fun_⟩ := BX0.out
  have f0 : w0.cell? ⟨w.heap.size + 1, 0, none⟩ = some (.int .i64 ((k : Int) + 1)) := F0
  have f1 : w0.cell? ⟨w.heap.size + 1, 1, none⟩ = some (.string ⟨#[]⟩) := F1
  have f2 : w0.cell? ⟨w.heap.size + 1, 2, none⟩ = some (.slice none 0 0) := F2
  have f3 : w0.cell? ⟨w.heap.size + 1, 3, none⟩ = some (.slice none 0 0) := F3
  have f4 : w0.cell? ⟨w.heap.size + 1, 4, none⟩ = some (.slice none 0 0) := F4
  have f5 : w0.cell? ⟨w.heap.size + 1, 5, none⟩ = some (.int .u64 0) := F5
  have f6 : w0.cell? ⟨w.heap.size + 1, 6, none⟩ = some (.int .u64 0) := F6
  have f7 : w0.cell? ⟨w.heap.size + 1, 7, none⟩ = some (.string ⟨#[]⟩) := F7
  have f8 : w0.cell? ⟨w.heap.size + 1, 8, none⟩ = some (.string ⟨#[]⟩) := F8
  have f9 : w0.cell? ⟨w.heap.size + 1, 9, none⟩ = some (.string ⟨#[]⟩) := F9
  clear F0 F1 F2 F3 F4 F5 F6 F7 F8 F9
  obtain ⟨z0, z1, z2, z3, z4, z5, z6, z7, z8, z9, zun⟩ := BZ0.out
  have zu0 := zun 0
  have zu1 := zun 1
  have zu2 := zun 2
  have zu3 := zun 3
  have zu4 := zun 4
  have zu5 := zun 5
  have zu6 := zun 6
  have zu7 := zun 7
  have zu8 := zun 8
  have zu9 := zun 9
  go_wp2_with fail
  have HF := put10 w0 w.heap.size (.int .i64 ((k : Int) + 1)) (.string ⟨#[]⟩) (.slice none 0 0) (.slice none 0 0) (.slice none 0 0) (.int .u64 0) (.int .u64 0) (.string ⟨#[]⟩) (.string ⟨#[]⟩) (.string ⟨#[]⟩)
  have HZ : w0.heap.size = (((((((((((w0.setCell ⟨w.heap.size, 0, none⟩ (.int .i64 ((k : Int) + 1))).setCell ⟨w.heap.size, 1, none⟩ (.string ⟨#[]⟩)).setCell ⟨w.heap.size, 2, none⟩ (.slice none 0 0)).setCell ⟨w.heap.size, 3, none⟩ (.slice none 0 0)).setCell ⟨w.heap.size, 4, none⟩ (.slice none 0 0)).setCell ⟨w.heap.size, 5, none⟩ (.int .u64 0)).setCell ⟨w.heap.size, 6, none⟩ (.int .u64 0)).setCell ⟨w.heap.size, 7, none⟩ (.string ⟨#[]⟩)).setCell ⟨w.heap.size, 8, none⟩ (.string ⟨#[]⟩)).setCell ⟨w.heap.size, 9, none⟩ (.string ⟨#[]⟩))).heap.size := by simp
  refine bodyPost_ret (v := .agg #[.int .i64 ((k : Int) + 1), .string ⟨#[]⟩, .slice none 0 0, .slice none 0 0, .slice none 0 0, .int .u64 0, .int .u64 0, .string ⟨#[]⟩, .string ⟨#[]⟩, .string ⟨#[]⟩]) (by simp [results, Tryd.results45, go_sem, z0, z1, z2, z3, z4, z5, z6, z7, z8, z9]) rfl ⟨⟨(⟨(k : Int) + 1, [], [], [], [], 0, 0, [], [], []⟩ : Cmd), none, 0, none, 0, none, 0⟩, rfl, ?_, ST0.out.2, ?_, ?_⟩
  · refine ⟨⟨(Rd.nil _ _), (fun _ => rfl), (Rb.nil _ _), (fun _ => rfl), (Rd.nil _ _), (fun _ => rfl)⟩, ⟨by show _ ≤ (k : Int) + 1; omega, by show (k : Int) + 1 ≤ _; omega, (Nat.zero_le _), (Nat.zero_le _), (Nat.zero_le _), (Nat.zero_le _), (Nat.zero_le _), (Nat.zero_le _), (Nat.zero_le _), (fun s hs => by cases hs), (fun s hs => by cases hs), (by show 0 < 18446744073709551616; omega), (by show 0 < 18446744073709551616; omega)⟩, (Nat.zero_le _), (Nat.zero_le _), (fun a ha => by cases ha), (fun a ha => by cases ha), (fun a ha => by cases ha)⟩
  · rw [← ST0.out.1]; exact Rq.low RQ0.out (HF.below (B := w.heap.size) (fun j e => by omega) (by omega)) hgl hhl
  · exact HT0.out.trans (HF.mono (fun j _ e => Or.inr (by omega)))
end Go.Proofs.YtefadkdngcbpiaaDoor.Qc
