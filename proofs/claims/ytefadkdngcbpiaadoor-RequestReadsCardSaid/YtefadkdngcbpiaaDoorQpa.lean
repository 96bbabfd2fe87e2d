/- Proves what package request's payload returns, for an Op of some sets of parts. Conditions: the table is laid; a command of bounded parts. -/
import Derived.Test.YtefadkdngcbpiaaDoorQy
namespace Go.Proofs.YtefadkdngcbpiaaDoor.Qp
open Go.RowKit Vm Ap Vw Va Vab Gc Mi Mb Qm Qs Qe Qn Fc Qy

set_option maxRecDepth 100000 in
set_option maxHeartbeats 4000000 in
theorem pay57 (x : Com) (k : Nat) (hk : k < 15) (hop : x.c.op = (k : Int) + 1) (hm : maskN k = 57) (w : World) (he : Env w) (hr : Rc w x) (hb : Bnd x.c) (hT : x.c.tags.length ≤ 40) :
    Calls Tryd.prog 40 #[comV x] w (bytesPost w (encS x.c.key ++ (encS x.c.value ++ (encL x.c.tags ++ (encN x.c.life ++ []))))) := by
  unfold comV
  obtain ⟨w0, hw0⟩ : ∃ w0, w0 = w.alloc (comO x) := ⟨_, rfl⟩
  have B0 : Below w.heap.size w w0 := by rw [hw0]; exact alloc_below _ _
  have bx := Box.new w x
  rw [← hw0] at bx
  have BX := Lib.hid bx
  have hmk := he.mask k hk
  have hg0 := he.size
  rw [hm] at hmk
  have HR := Lib.hid (hr.below B0 (Nat.le_refl _))
  have HBD := Lib.hid hb
  have HB0 := Lib.hid B0
  have P0 : Hid (Pcs w.heap.size w0 none 0 []) := Pcs.nil _ _
  have c0 := bx.c0
  unfold comO at hw0
  have hlt := bx.lt
  rw [hop] at c0
  clear bx B0 he hr hb hm
  have hopz := Lib.hid hop
  rw [hop] at hw0 ⊢
  clear hop

  obtain ⟨l1, hl1⟩ : ∃ l, l = encS x.c.key := ⟨_, rfl⟩
  have LE1 : l1.length ≤ 40000410 := by rw [hl1]; exact Nat.le_trans (encS_len _ HBD.out.key) (by omega)
  have HL1 := Lib.hid hl1; clear hl1
  obtain ⟨l2, hl2⟩ : ∃ l, l = encS x.c.value := ⟨_, rfl⟩
  have LE2 : l2.length ≤ 40000410 := by rw [hl2]; exact Nat.le_trans (encS_len _ HBD.out.value) (by omega)
  have HL2 := Lib.hid hl2; clear hl2
  obtain ⟨l3, hl3⟩ : ∃ l, l = encL x.c.tags := ⟨_, rfl⟩
  have LE3 : l3.length ≤ 40000410 := by rw [hl3]; exact Nat.le_trans (encL_len _ HBD.out.eachT hT) (by omega)
  have HL3 := Lib.hid hl3; clear hl3
  obtain ⟨l4, hl4⟩ : ∃ l, l = encN x.c.life := ⟨_, rfl⟩
  have LE4 : l4.length ≤ 40000410 := by rw [hl4]; exact Nat.le_trans (enc_le _ (by have := HBD.out.life; unfold big; omega)) (by omega)
  have HL4 := Lib.hid hl4; clear hl4
  go_enter Tryd.func40, Tryd.ntmps40
  go_wp2_with fail
  rw [← hw0]
  clear hw0
  refine (has_mask 57 0 57 1 true _ (by omega) rfl (by omega) rfl (by decide)).mono ?_
  rintro e wx ⟨rfl, rfl⟩
  have c1 := (BX.out.below (B := w0.heap.size) (Below.refl _ _) (Nat.le_refl _)).c1
  go_wp2_with fail
  refine (show Calls _ _ _ _ (bytesPost _ l1) from by rw [HL1.out]; exact text_any x.c.key _ HBD.out.key).mono ?_
  rintro e y1 ⟨v1, rfl, h1, b1⟩
  obtain ⟨X1, d1, sh1⟩ := own_shape h1
  obtain rfl := sh1.val
  have SH1 := Lib.hid sh1; have HY1 := Lib.hid b1
  clear h1 b1 sh1 c1
  go_wp2_with (at_builtin; (refine wpList_mine rfl _ _ elmP _ rfl rfl ((Pcs.below (Pcs.below P0.out HY1.out (Nat.le_refl _)) (alloc_below _ _) (Nat.le_refl _)).mine) _ rfl 1 [.slice X1 (l1).length d1] (src_one X1 _ d1 _ rfl) (by simp) (by omega) (by simp; have := HB0.out.size; have := HB0.out.size; have := HY1.out.size; omega) ?_))
  intro Z1 z1 u1 m1 g1 e1
  have p1 : Pcs w.heap.size u1 Z1 z1 ([] ++ [⟨X1, l1, d1⟩]) := Pcs.push P0.out rfl HY1.out ⟨X1, l1, d1⟩ SH1.out.rd SH1.out.non (SH1.out.base) (alloc_below _ _) (by simp) m1 g1 e1
  have P1 : Hid (Pcs w.heap.size u1 Z1 z1 [⟨X1, l1, d1⟩]) := p1
  have Su1 : Hid (Below w0.heap.size w0 u1) := ((HY1.out).alloc HY1.out.size _).grown g1 (by simp; have := HY1.out.size; omega) (fun j e => ?_)
  rotate_left
  · cases e
  have Q1 : ∀ a, Z1 = some a → w0.heap.size ≤ a.block := fun a ha => by
    rcases e1 with e | e
    · rw [e] at ha; cases ha
    · have h3 : y1.heap.size ≤ a.block := Nat.le_trans (by simp) (e a ha)
      have := HY1.out.size; omega
  clear m1 g1 e1 p1
  go_wp2_with fail
  refine (has_mask 57 1 57 2 false _ (by omega) rfl (by omega) rfl (by decide)).mono ?_
  rintro e wx ⟨rfl, rfl⟩
  go_wp2_with fail
  refine (has_mask 57 2 57 4 false _ (by omega) rfl (by omega) rfl (by decide)).mono ?_
  rintro e wx ⟨rfl, rfl⟩
  go_wp2_with fail
  refine (has_mask 57 3 57 8 true _ (by omega) rfl (by omega) rfl (by decide)).mono ?_
  rintro e wx ⟨rfl, rfl⟩
  have c3 := (BX.out.below (B := w0.heap.size) (Su1.out) (Nat.le_refl _)).c3
  go_wp2_with fail
  refine (show Calls _ _ _ _ (bytesPost _ l2) from by rw [HL2.out]; exact putB_any none x.VA [] x.c.value 0 x.vc _ (Rb.nil _ _) (fun _ => rfl) (by simp) (HR.out.below (B := w0.heap.size) (Su1.out) (Nat.le_refl _)).rv HR.out.nv (by have := HBD.out.value; omega)).mono ?_
  rintro e y2 ⟨v2, rfl, h2, b2⟩
  obtain ⟨X2, d2, sh2⟩ := own_shape h2
  obtain rfl := sh2.val
  have SH2 := Lib.hid sh2; have HY2 := Lib.hid b2
  clear h2 b2 sh2 c3
  go_wp2_with (at_builtin; (refine wpList_mine rfl _ _ elmP _ rfl rfl ((Pcs.below (Pcs.below P1.out HY2.out (Nat.le_refl _)) (alloc_below _ _) (Nat.le_refl _)).mine) _ rfl 1 [.slice X2 (l2).length d2] (src_one X2 _ d2 _ rfl) (by simp) (by omega) (by simp; have := HB0.out.size; have := Su1.out.size; have := HY2.out.size; omega) ?_))
  intro Z2 z2 u2 m2 g2 e2
  have p2 : Pcs w.heap.size u2 Z2 z2 ([⟨X1, l1, d1⟩] ++ [⟨X2, l2, d2⟩]) := Pcs.push P1.out rfl HY2.out ⟨X2, l2, d2⟩ SH2.out.rd SH2.out.non (SH2.out.base) (alloc_below _ _) (by simp) m2 g2 e2
  have P2 : Hid (Pcs w.heap.size u2 Z2 z2 [⟨X1, l1, d1⟩, ⟨X2, l2, d2⟩]) := p2
  have Su2 : Hid (Below w0.heap.size w0 u2) := (((Su1.out.trans (HY2.out.mono Su1.out.size)).alloc (Nat.le_trans Su1.out.size HY2.out.size) _)).grown g2 (by simp; have := Su1.out.size; have := HY2.out.size; omega) (fun j e => ?_)
  rotate_left
  · rw [Option.map_eq_some_iff] at e; obtain ⟨a, ha, rfl⟩ := e; exact Q1 a ha
  have Q2 : ∀ a, Z2 = some a → w0.heap.size ≤ a.block := fun a ha => by
    rcases e2 with e | e
    · rw [e] at ha; exact Q1 a ha
    · have h3 : y2.heap.size ≤ a.block := Nat.le_trans (by simp) (e a ha)
      have := HY2.out.size; have := Su1.out.size; omega
  clear m2 g2 e2 p2
  go_wp2_with fail
  refine (has_mask 57 4 57 16 true _ (by omega) rfl (by omega) rfl (by decide)).mono ?_
  rintro e wx ⟨rfl, rfl⟩
  have c4 := (BX.out.below (B := w0.heap.size) (Su2.out) (Nat.le_refl _)).c4
  go_wp2_with fail
  refine (show Calls _ _ _ _ (bytesPost _ l3) from by rw [HL3.out]; exact list_any x.TA x.c.tags x.tc _ (HR.out.below (B := w0.heap.size) (Su2.out) (Nat.le_refl _)).rt hT HBD.out.eachT).mono ?_
  rintro e y3 ⟨v3, rfl, h3, b3⟩
  obtain ⟨X3, d3, sh3⟩ := own_shape h3
  obtain rfl := sh3.val
  have SH3 := Lib.hid sh3; have HY3 := Lib.hid b3
  clear h3 b3 sh3 c4
  go_wp2_with (at_builtin; (refine wpList_mine rfl _ _ elmP _ rfl rfl ((Pcs.below (Pcs.below P2.out HY3.out (Nat.le_refl _)) (alloc_below _ _) (Nat.le_refl _)).mine) _ rfl 1 [.slice X3 (l3).length d3] (src_one X3 _ d3 _ rfl) (by simp) (by omega) (by simp; have := HB0.out.size; have := Su2.out.size; have := HY3.out.size; omega) ?_))
  intro Z3 z3 u3 m3 g3 e3
  have p3 : Pcs w.heap.size u3 Z3 z3 ([⟨X1, l1, d1⟩, ⟨X2, l2, d2⟩] ++ [⟨X3, l3, d3⟩]) := Pcs.push P2.out rfl HY3.out ⟨X3, l3, d3⟩ SH3.out.rd SH3.out.non (SH3.out.base) (alloc_below _ _) (by simp) m3 g3 e3
  have P3 : Hid (Pcs w.heap.size u3 Z3 z3 [⟨X1, l1, d1⟩, ⟨X2, l2, d2⟩, ⟨X3, l3, d3⟩]) := p3
  have Su3 : Hid (Below w0.heap.size w0 u3) := (((Su2.out.trans (HY3.out.mono Su2.out.size)).alloc (Nat.le_trans Su2.out.size HY3.out.size) _)).grown g3 (by simp; have := Su2.out.size; have := HY3.out.size; omega) (fun j e => ?_)
  rotate_left
  · rw [Option.map_eq_some_iff] at e; obtain ⟨a, ha, rfl⟩ := e; exact Q2 a ha
  have Q3 : ∀ a, Z3 = some a → w0.heap.size ≤ a.block := fun a ha => by
    rcases e3 with e | e
    · rw [e] at ha; exact Q2 a ha
    · have h3 : y3.heap.size ≤ a.block := Nat.le_trans (by simp) (e a ha)
      have := HY3.out.size; have := Su2.out.size; omega
  clear m3 g3 e3 p3
  go_wp2_with fail
  refine (has_mask 57 5 57 32 true _ (by omega) rfl (by omega) rfl (by decide)).mono ?_
  rintro e wx ⟨rfl, rfl⟩
  have c5 := (BX.out.below (B := w0.heap.size) (Su3.out) (Nat.le_refl _)).c5
  go_wp2_with fail
  refine (show Calls _ _ _ _ (bytesPost _ l4) from by rw [HL4.out]; exact put_any none [] 0 x.c.life _ (Rb.nil _ _) (fun _ => rfl) (by simp) (by have := HBD.out.life; unfold big; omega)).mono ?_
  rintro e y4 ⟨v4, rfl, h4, b4⟩
  obtain ⟨X4, d4, sh4⟩ := own_shape h4
  obtain rfl := sh4.val
  have SH4 := Lib.hid sh4; have HY4 := Lib.hid b4
  clear h4 b4 sh4 c5
  go_wp2_with (at_builtin; (refine wpList_mine rfl _ _ elmP _ rfl rfl ((Pcs.below (Pcs.below P3.out HY4.out (Nat.le_refl _)) (alloc_below _ _) (Nat.le_refl _)).mine) _ rfl 1 [.slice X4 (l4).length d4] (src_one X4 _ d4 _ rfl) (by simp) (by omega) (by simp; have := HB0.out.size; have := Su3.out.size; have := HY4.out.size; omega) ?_))
  intro Z4 z4 u4 m4 g4 e4
  have p4 : Pcs w.heap.size u4 Z4 z4 ([⟨X1, l1, d1⟩, ⟨X2, l2, d2⟩, ⟨X3, l3, d3⟩] ++ [⟨X4, l4, d4⟩]) := Pcs.push P3.out rfl HY4.out ⟨X4, l4, d4⟩ SH4.out.rd SH4.out.non (SH4.out.base) (alloc_below _ _) (by simp) m4 g4 e4
  have P4 : Hid (Pcs w.heap.size u4 Z4 z4 [⟨X1, l1, d1⟩, ⟨X2, l2, d2⟩, ⟨X3, l3, d3⟩, ⟨X4, l4, d4⟩]) := p4
  have Su4 : Hid (Below w0.heap.size w0 u4) := (((Su3.out.trans (HY4.out.mono Su3.out.size)).alloc (Nat.le_trans Su3.out.size HY4.out.size) _)).grown g4 (by simp; have := Su3.out.size; have := HY4.out.size; omega) (fun j e => ?_)
  rotate_left
  · rw [Option.map_eq_some_iff] at e; obtain ⟨a, ha, rfl⟩ := e; exact Q3 a ha
  have Q4 : ∀ a, Z4 = some a → w0.heap.size ≤ a.block := fun a ha => by
    rcases e4 with e | e
    · rw [e] at ha; exact Q3 a ha
    · have h3 : y4.heap.size ≤ a.block := Nat.le_trans (by simp) (e a ha)
      have := HY4.out.size; have := Su3.out.size; omega
  clear m4 g4 e4 p4
  go_wp2_with fail
  refine (has_mask 57 6 57 64 false _ (by omega) rfl (by omega) rfl (by decide)).mono ?_
  rintro e wx ⟨rfl, rfl⟩
  go_wp2_with fail
  refine (has_mask 57 7 57 128 false _ (by omega) rfl (by omega) rfl (by decide)).mono ?_
  rintro e wx ⟨rfl, rfl⟩
  go_wp2_with fail
  refine (has_mask 57 8 57 256 false _ (by omega) rfl (by omega) rfl (by decide)).mono ?_
  rintro e wx ⟨rfl, rfl⟩
  go_wp2_with fail
  refine (show Calls _ _ _ _ (bytesPost u4 (flat [⟨X1, l1, d1⟩, ⟨X2, l2, d2⟩, ⟨X3, l3, d3⟩, ⟨X4, l4, d4⟩])) from concat_any Z4 [⟨X1, l1, d1⟩, ⟨X2, l2, d2⟩, ⟨X3, l3, d3⟩, ⟨X4, l4, d4⟩] z4 u4 (rs_pcs P4.out) (each_pcs P4.out) (by unfold flat; simp; have := LE1; have := LE2; have := LE3; have := LE4; omega) (by simp)).mono ?_
  rintro e y ⟨v, rfl, h, b⟩
  have H := Lib.hid h; have HY := Lib.hid b
  clear h b
  go_wp2_with fail
  go_ret
  refine ⟨v, rfl, ?_, (HB0.out.trans (Su4.out.mono HB0.out.size)).trans (HY.out.mono (HB0.out.trans (Su4.out.mono HB0.out.size)).size)⟩
  have h := own_base H.out (show w.heap.size ≤ u4.heap.size from (HB0.out.trans (Su4.out.mono HB0.out.size)).size)
  have hf : flat [⟨X1, l1, d1⟩, ⟨X2, l2, d2⟩, ⟨X3, l3, d3⟩, ⟨X4, l4, d4⟩] = l1 ++ (l2 ++ (l3 ++ (l4 ++ ([])))) := by unfold flat; simp
  rw [hf] at h
  rw [HL1.out, HL2.out, HL3.out, HL4.out] at h
  exact h
set_option maxRecDepth 100000 in
set_option maxHeartbeats 4000000 in
theorem pay121 (x : Com) (k : Nat) (hk : k < 15) (hop : x.c.op = (k : Int) + 1) (hm : maskN k = 121) (w : World) (he : Env w) (hr : Rc w x) (hb : Bnd x.c) (hT : x.c.tags.length ≤ 40) :
    Calls Tryd.prog 40 #[comV x] w (bytesPost w (encS x.c.key ++ (encS x.c.value ++ (encL x.c.tags ++ (encN x.c.life ++ (encN x.c.version ++ [])))))) := by
  unfold comV
  obtain ⟨w0, hw0⟩ : ∃ w0, w0 = w.alloc (comO x) := ⟨_, rfl⟩
  have B0 : Below w.heap.size w w0 := by rw [hw0]; exact alloc_below _ _
  have bx := Box.new w x
  rw [← hw0] at bx
  have BX := Lib.hid bx
  have hmk := he.mask k hk
  have hg0 := he.size
  rw [hm] at hmk
  have HR := Lib.hid (hr.below B0 (Nat.le_refl _))
  have HBD := Lib.hid hb
  have HB0 := Lib.hid B0
  have P0 : Hid (Pcs w.heap.size w0 none 0 []) := Pcs.nil _ _
  have c0 := bx.c0
  unfold comO at hw0
  have hlt := bx.lt
  rw [hop] at c0
  clear bx B0 he hr hb hm
  have hopz := Lib.hid hop
  rw [hop] at hw0 ⊢
  clear hop

  obtain ⟨l1, hl1⟩ : ∃ l, l = encS x.c.key := ⟨_, rfl⟩
  have LE1 : l1.length ≤ 40000410 := by rw [hl1]; exact Nat.le_trans (encS_len _ HBD.out.key) (by omega)
  have HL1 := Lib.hid hl1; clear hl1
  obtain ⟨l2, hl2⟩ : ∃ l, l = encS x.c.value := ⟨_, rfl⟩
  have LE2 : l2.length ≤ 40000410 := by rw [hl2]; exact Nat.le_trans (encS_len _ HBD.out.value) (by omega)
  have HL2 := Lib.hid hl2; clear hl2
  obtain ⟨l3, hl3⟩ : ∃ l, l = encL x.c.tags := ⟨_, rfl⟩
  have LE3 : l3.length ≤ 40000410 := by rw [hl3]; exact Nat.le_trans (encL_len _ HBD.out.eachT hT) (by omega)
  have HL3 := Lib.hid hl3; clear hl3
  obtain ⟨l4, hl4⟩ : ∃ l, l = encN x.c.life := ⟨_, rfl⟩
  have LE4 : l4.length ≤ 40000410 := by rw [hl4]; exact Nat.le_trans (enc_le _ (by have := HBD.out.life; unfold big; omega)) (by omega)
  have HL4 := Lib.hid hl4; clear hl4
  obtain ⟨l5, hl5⟩ : ∃ l, l = encN x.c.version := ⟨_, rfl⟩
  have LE5 : l5.length ≤ 40000410 := by rw [hl5]; exact Nat.le_trans (enc_le _ (by have := HBD.out.version; unfold big; omega)) (by omega)
  have HL5 := Lib.hid hl5; clear hl5
  go_enter Tryd.func40, Tryd.ntmps40
  go_wp2_with fail
  rw [← hw0]
  clear hw0
  refine (has_mask 121 0 121 1 true _ (by omega) rfl (by omega) rfl (by decide)).mono ?_
  rintro e wx ⟨rfl, rfl⟩
  have c1 := (BX.out.below (B := w0.heap.size) (Below.refl _ _) (Nat.le_refl _)).c1
  go_wp2_with fail
  refine (show Calls _ _ _ _ (bytesPost _ l1) from by rw [HL1.out]; exact text_any x.c.key _ HBD.out.key).mono ?_
  rintro e y1 ⟨v1, rfl, h1, b1⟩
  obtain ⟨X1, d1, sh1⟩ := own_shape h1
  obtain rfl := sh1.val
  have SH1 := Lib.hid sh1; have HY1 := Lib.hid b1
  clear h1 b1 sh1 c1
  go_wp2_with (at_builtin; (refine wpList_mine rfl _ _ elmP _ rfl rfl ((Pcs.below (Pcs.below P0.out HY1.out (Nat.le_refl _)) (alloc_below _ _) (Nat.le_refl _)).mine) _ rfl 1 [.slice X1 (l1).length d1] (src_one X1 _ d1 _ rfl) (by simp) (by omega) (by simp; have := HB0.out.size; have := HB0.out.size; have := HY1.out.size; omega) ?_))
  intro Z1 z1 u1 m1 g1 e1
  have p1 : Pcs w.heap.size u1 Z1 z1 ([] ++ [⟨X1, l1, d1⟩]) := Pcs.push P0.out rfl HY1.out ⟨X1, l1, d1⟩ SH1.out.rd SH1.out.non (SH1.out.base) (alloc_below _ _) (by simp) m1 g1 e1
  have P1 : Hid (Pcs w.heap.size u1 Z1 z1 [⟨X1, l1, d1⟩]) := p1
  have Su1 : Hid (Below w0.heap.size w0 u1) := ((HY1.out).alloc HY1.out.size _).grown g1 (by simp; have := HY1.out.size; omega) (fun j e => ?_)
  rotate_left
  · cases e
  have Q1 : ∀ a, Z1 = some a → w0.heap.size ≤ a.block := fun a ha => by
    rcases e1 with e | e
    · rw [e] at ha; cases ha
    · have h3 : y1.heap.size ≤ a.block := Nat.le_trans (by simp) (e a ha)
      have := HY1.out.size; omega
  clear m1 g1 e1 p1
  go_wp2_with fail
  refine (has_mask 121 1 121 2 false _ (by omega) rfl (by omega) rfl (by decide)).mono ?_
  rintro e wx ⟨rfl, rfl⟩
  go_wp2_with fail
  refine (has_mask 121 2 121 4 false _ (by omega) rfl (by omega) rfl (by decide)).mono ?_
  rintro e wx ⟨rfl, rfl⟩
  go_wp2_with fail
  refine (has_mask 121 3 121 8 true _ (by omega) rfl (by omega) rfl (by decide)).mono ?_
  rintro e wx ⟨rfl, rfl⟩
  have c3 := (BX.out.below (B := w0.heap.size) (Su1.out) (Nat.le_refl _)).c3
  go_wp2_with fail
  refine (show Calls _ _ _ _ (bytesPost _ l2) from by rw [HL2.out]; exact putB_any none x.VA [] x.c.value 0 x.vc _ (Rb.nil _ _) (fun _ => rfl) (by simp) (HR.out.below (B := w0.heap.size) (Su1.out) (Nat.le_refl _)).rv HR.out.nv (by have := HBD.out.value; omega)).mono ?_
  rintro e y2 ⟨v2, rfl, h2, b2⟩
  obtain ⟨X2, d2, sh2⟩ := own_shape h2
  obtain rfl := sh2.val
  have SH2 := Lib.hid sh2; have HY2 := Lib.hid b2
  clear h2 b2 sh2 c3
  go_wp2_with (at_builtin; (refine wpList_mine rfl _ _ elmP _ rfl rfl ((Pcs.below (Pcs.below P1.out HY2.out (Nat.le_refl _)) (alloc_below _ _) (Nat.le_refl _)).mine) _ rfl 1 [.slice X2 (l2).length d2] (src_one X2 _ d2 _ rfl) (by simp) (by omega) (by simp; have := HB0.out.size; have := Su1.out.size; have := HY2.out.size; omega) ?_))
  intro Z2 z2 u2 m2 g2 e2
  have p2 : Pcs w.heap.size u2 Z2 z2 ([⟨X1, l1, d1⟩] ++ [⟨X2, l2, d2⟩]) := Pcs.push P1.out rfl HY2.out ⟨X2, l2, d2⟩ SH2.out.rd SH2.out.non (SH2.out.base) (alloc_below _ _) (by simp) m2 g2 e2
  have P2 : Hid (Pcs w.heap.size u2 Z2 z2 [⟨X1, l1, d1⟩, ⟨X2, l2, d2⟩]) := p2
  have Su2 : Hid (Below w0.heap.size w0 u2) := (((Su1.out.trans (HY2.out.mono Su1.out.size)).alloc (Nat.le_trans Su1.out.size HY2.out.size) _)).grown g2 (by simp; have := Su1.out.size; have := HY2.out.size; omega) (fun j e => ?_)
  rotate_left
  · rw [Option.map_eq_some_iff] at e; obtain ⟨a, ha, rfl⟩ := e; exact Q1 a ha
  have Q2 : ∀ a, Z2 = some a → w0.heap.size ≤ a.block := fun a ha => by
    rcases e2 with e | e
    · rw [e] at ha; exact Q1 a ha
    · have h3 : y2.heap.size ≤ a.block := Nat.le_trans (by simp) (e a ha)
      have := HY2.out.size; have := Su1.out.size; omega
  clear m2 g2 e2 p2
  go_wp2_with fail
  refine (has_mask 121 4 121 16 true _ (by omega) rfl (by omega) rfl (by decide)).mono ?_
  rintro e wx ⟨rfl, rfl⟩
  have c4 := (BX.out.below (B := w0.heap.size) (Su2.out) (Nat.le_refl _)).c4
  go_wp2_with fail
  refine (show Calls _ _ _ _ (bytesPost _ l3) from by rw [HL3.out]; exact list_any x.TA x.c.tags x.tc _ (HR.out.below (B := w0.heap.size) (Su2.out) (Nat.le_refl _)).rt hT HBD.out.eachT).mono ?_
  rintro e y3 ⟨v3, rfl, h3, b3⟩
  obtain ⟨X3, d3, sh3⟩ := own_shape h3
  obtain rfl := sh3.val
  have SH3 := Lib.hid sh3; have HY3 := Lib.hid b3
  clear h3 b3 sh3 c4
  go_wp2_with (at_builtin; (refine wpList_mine rfl _ _ elmP _ rfl rfl ((Pcs.below (Pcs.below P2.out HY3.out (Nat.le_refl _)) (alloc_below _ _) (Nat.le_refl _)).mine) _ rfl 1 [.slice X3 (l3).length d3] (src_one X3 _ d3 _ rfl) (by simp) (by omega) (by simp; have := HB0.out.size; have := Su2.out.size; have := HY3.out.size; omega) ?_))
  intro Z3 z3 u3 m3 g3 e3
  have p3 : Pcs w.heap.size u3 Z3 z3 ([⟨X1, l1, d1⟩, ⟨X2, l2, d2⟩] ++ [⟨X3, l3, d3⟩]) := Pcs.push P2.out rfl HY3.out ⟨X3, l3, d3⟩ SH3.out.rd SH3.out.non (SH3.out.base) (alloc_below _ _) (by simp) m3 g3 e3
  have P3 : Hid (Pcs w.heap.size u3 Z3 z3 [⟨X1, l1, d1⟩, ⟨X2, l2, d2⟩, ⟨X3, l3, d3⟩]) := p3
  have Su3 : Hid (Below w0.heap.size w0 u3) := (((Su2.out.trans (HY3.out.mono Su2.out.size)).alloc (Nat.le_trans Su2.out.size HY3.out.size) _)).grown g3 (by simp; have := Su2.out.size; have := HY3.out.size; omega) (fun j e => ?_)
  rotate_left
  · rw [Option.map_eq_some_iff] at e; obtain ⟨a, ha, rfl⟩ := e; exact Q2 a ha
  have Q3 : ∀ a, Z3 = some a → w0.heap.size ≤ a.block := fun a ha => by
    rcases e3 with e | e
    · rw [e] at ha; exact Q2 a ha
    · have h3 : y3.heap.size ≤ a.block := Nat.le_trans (by simp) (e a ha)
      have := HY3.out.size; have := Su2.out.size; omega
  clear m3 g3 e3 p3
  go_wp2_with fail
  refine (has_mask 121 5 121 32 true _ (by omega) rfl (by omega) rfl (by decide)).mono ?_
  rintro e wx ⟨rfl, rfl⟩
  have c5 := (BX.out.below (B := w0.heap.size) (Su3.out) (Nat.le_refl _)).c5
  go_wp2_with fail
  refine (show Calls _ _ _ _ (bytesPost _ l4) from by rw [HL4.out]; exact put_any none [] 0 x.c.life _ (Rb.nil _ _) (fun _ => rfl) (by simp) (by have := HBD.out.life; unfold big; omega)).mono ?_
  rintro e y4 ⟨v4, rfl, h4, b4⟩
  obtain ⟨X4, d4, sh4⟩ := own_shape h4
  obtain rfl := sh4.val
  have SH4 := Lib.hid sh4; have HY4 := Lib.hid b4
  clear h4 b4 sh4 c5
  go_wp2_with (at_builtin; (refine wpList_mine rfl _ _ elmP _ rfl rfl ((Pcs.below (Pcs.below P3.out HY4.out (Nat.le_refl _)) (alloc_below _ _) (Nat.le_refl _)).mine) _ rfl 1 [.slice X4 (l4).length d4] (src_one X4 _ d4 _ rfl) (by simp) (by omega) (by simp; have := HB0.out.size; have := Su3.out.size; have := HY4.out.size; omega) ?_))
  intro Z4 z4 u4 m4 g4 e4
  have p4 : Pcs w.heap.size u4 Z4 z4 ([⟨X1, l1, d1⟩, ⟨X2, l2, d2⟩, ⟨X3, l3, d3⟩] ++ [⟨X4, l4, d4⟩]) := Pcs.push P3.out rfl HY4.out ⟨X4, l4, d4⟩ SH4.out.rd SH4.out.non (SH4.out.base) (alloc_below _ _) (by simp) m4 g4 e4
  have P4 : Hid (Pcs w.heap.size u4 Z4 z4 [⟨X1, l1, d1⟩, ⟨X2, l2, d2⟩, ⟨X3, l3, d3⟩, ⟨X4, l4, d4⟩]) := p4
  have Su4 : Hid (Below w0.heap.size w0 u4) := (((Su3.out.trans (HY4.out.mono Su3.out.size)).alloc (Nat.le_trans Su3.out.size HY4.out.size) _)).grown g4 (by simp; have := Su3.out.size; have := HY4.out.size; omega) (fun j e => ?_)
  rotate_left
  · rw [Option.map_eq_some_iff] at e; obtain ⟨a, ha, rfl⟩ := e; exact Q3 a ha
  have Q4 : ∀ a, Z4 = some a → w0.heap.size ≤ a.block := fun a ha => by
    rcases e4 with e | e
    · rw [e] at ha; exact Q3 a ha
    · have h3 : y4.heap.size ≤ a.block := Nat.le_trans (by simp) (e a ha)
      have := HY4.out.size; have := Su3.out.size; omega
  clear m4 g4 e4 p4
  go_wp2_with fail
  refine (has_mask 121 6 121 64 true _ (by omega) rfl (by omega) rfl (by decide)).mono ?_
  rintro e wx ⟨rfl, rfl⟩
  have c6 := (BX.out.below (B := w0.heap.size) (Su4.out) (Nat.le_refl _)).c6
  go_wp2_with fail
  refine (show Calls _ _ _ _ (bytesPost _ l5) from by rw [HL5.out]; exact put_any none [] 0 x.c.version _ (Rb.nil _ _) (fun _ => rfl) (by simp) (by have := HBD.out.version; unfold big; omega)).mono ?_
  rintro e y5 ⟨v5, rfl, h5, b5⟩
  obtain ⟨X5, d5, sh5⟩ := own_shape h5
  obtain rfl := sh5.val
  have SH5 := Lib.hid sh5; have HY5 := Lib.hid b5
  clear h5 b5 sh5 c6
  go_wp2_with (at_builtin; (refine wpList_mine rfl _ _ elmP _ rfl rfl ((Pcs.below (Pcs.below P4.out HY5.out (Nat.le_refl _)) (alloc_below _ _) (Nat.le_refl _)).mine) _ rfl 1 [.slice X5 (l5).length d5] (src_one X5 _ d5 _ rfl) (by simp) (by omega) (by simp; have := HB0.out.size; have := Su4.out.size; have := HY5.out.size; omega) ?_))
  intro Z5 z5 u5 m5 g5 e5
  have p5 : Pcs w.heap.size u5 Z5 z5 ([⟨X1, l1, d1⟩, ⟨X2, l2, d2⟩, ⟨X3, l3, d3⟩, ⟨X4, l4, d4⟩] ++ [⟨X5, l5, d5⟩]) := Pcs.push P4.out rfl HY5.out ⟨X5, l5, d5⟩ SH5.out.rd SH5.out.non (SH5.out.base) (alloc_below _ _) (by simp) m5 g5 e5
  have P5 : Hid (Pcs w.heap.size u5 Z5 z5 [⟨X1, l1, d1⟩, ⟨X2, l2, d2⟩, ⟨X3, l3, d3⟩, ⟨X4, l4, d4⟩, ⟨X5, l5, d5⟩]) := p5
  have Su5 : Hid (Below w0.heap.size w0 u5) := (((Su4.out.trans (HY5.out.mono Su4.out.size)).alloc (Nat.le_trans Su4.out.size HY5.out.size) _)).grown g5 (by simp; have := Su4.out.size; have := HY5.out.size; omega) (fun j e => ?_)
  rotate_left
  · rw [Option.map_eq_some_iff] at e; obtain ⟨a, ha, rfl⟩ := e; exact Q4 a ha
  have Q5 : ∀ a, Z5 = some a → w0.heap.size ≤ a.block := fun a ha => by
    rcases e5 with e | e
    · rw [e] at ha; exact Q4 a ha
    · have h3 : y5.heap.size ≤ a.block := Nat.le_trans (by simp) (e a ha)
      have := HY5.out.size; have := Su4.out.size; omega
  clear m5 g5 e5 p5
  go_wp2_with fail
  refine (has_mask 121 7 121 128 false _ (by omega) rfl (by omega) rfl (by decide)).mono ?_
  rintro e wx ⟨rfl, rfl⟩
  go_wp2_with fail
  refine (has_mask 121 8 121 256 false _ (by omega) rfl (by omega) rfl (by decide)).mono ?_
  rintro e wx ⟨rfl, rfl⟩
  go_wp2_with fail
  refine (show Calls _ _ _ _ (bytesPost u5 (flat [⟨X1, l1, d1⟩, ⟨X2, l2, d2⟩, ⟨X3, l3, d3⟩, ⟨X4, l4, d4⟩, ⟨X5, l5, d5⟩])) from concat_any Z5 [⟨X1, l1, d1⟩, ⟨X2, l2, d2⟩, ⟨X3, l3, d3⟩, ⟨X4, l4, d4⟩, ⟨X5, l5, d5⟩] z5 u5 (rs_pcs P5.out) (each_pcs P5.out) (by unfold flat; simp; have := LE1; have := LE2; have := LE3; have := LE4; have := LE5; omega) (by simp)).mono ?_
  rintro e y ⟨v, rfl, h, b⟩
  have H := Lib.hid h; have HY := Lib.hid b
  clear h b
  go_wp2_with fail
  go_ret
  refine ⟨v, rfl, ?_, (HB0.out.trans (Su5.out.mono HB0.out.size)).trans (HY.out.mono (HB0.out.trans (Su5.out.mono HB0.out.size)).size)⟩
  have h := own_base H.out (show w.heap.size ≤ u5.heap.size from (HB0.out.trans (Su5.out.mono HB0.out.size)).size)
  have hf : flat [⟨X1, l1, d1⟩, ⟨X2, l2, d2⟩, ⟨X3, l3, d3⟩, ⟨X4, l4, d4⟩, ⟨X5, l5, d5⟩] = l1 ++ (l2 ++ (l3 ++ (l4 ++ (l5 ++ ([]))))) := by unfold flat; simp
  rw [hf] at h
  rw [HL1.out, HL2.out, HL3.out, HL4.out, HL5.out] at h
  exact h
end Go.Proofs.YtefadkdngcbpiaaDoor.Qp
