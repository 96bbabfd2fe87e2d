/- Proves what package request's payload returns, for an Op of the other sets of parts. Conditions: the table is laid; a command of bounded parts. -/
import Derived.Test.YtefadkdngcbpiaaDoorQy
namespace Go.Proofs.YtefadkdngcbpiaaDoor.Qp
open Go.RowKit Vm Ap Vw Va Vab Gc Mi Mb Qm Qs Qe Qn Fc Qy

set_option maxRecDepth 100000 in
set_option maxHeartbeats 4000000 in
theorem pay1 (x : Com) (k : Nat) (hk : k < 15) (hop : x.c.op = (k : Int) + 1) (hm : maskN k = 1) (w : World) (he : Env w) (hr : Rc w x) (hb : Bnd x.c) :
    Calls Tryd.prog 40 #[comV x] w (bytesPost w (encS x.c.key ++ [])) := by
  unfold comV
  obtain ⟨w0, hw0⟩ : ∃ w0, w0 = w.alloc (comO x) := ⟨_, rfl⟩
  have B0 : Below w.heap.size w w0 := by rw [hw0]; exact alloc_below _ _
  have bx := Box.new w x
  rw [← hw0] at bx
  have BX := Lib.hid bx
  have hmk := he.mask k hk
  have hg0 := he.size
  rw [hm] at hmk
  have HR := Lib.hid (hr.below B0 (Nat.le_refl _))
  have HBD := Lib.hid hb
  have HB0 := Lib.hid B0
  have P0 : Hid (Pcs w.heap.size w0 none 0 []) := Pcs.nil _ _
  have c0 := bx.c0
  unfold comO at hw0
  have hlt := bx.lt
  rw [hop] at c0
  clear bx B0 he hr hb hm
  have hopz := Lib.hid hop
  rw [hop] at hw0 ⊢
  clear hop

  obtain ⟨l1, hl1⟩ : ∃ l, l = encS x.c.key := ⟨_, rfl⟩
  have LE1 : l1.length ≤ 40000410 := by rw [hl1]; exact Nat.le_trans (encS_len _ HBD.out.key) (by omega)
  have HL1 := Lib.hid hl1; clear hl1
  go_enter Tryd.func40, Tryd.ntmps40
  go_wp2_with fail
  rw [← hw0]
  clear hw0
  refine (has_mask 1 0 1 1 true _ (by omega) rfl (by omega) rfl (by decide)).mono ?_
  rintro e wx ⟨rfl, rfl⟩
  have c1 := (BX.out.below (B := w0.heap.size) (Below.refl _ _) (Nat.le_refl _)).c1
  go_wp2_with fail
  refine (show Calls _ _ _ _ (bytesPost _ l1) from by rw [HL1.out]; exact text_any x.c.key _ HBD.out.key).mono ?_
  rintro e y1 ⟨v1, rfl, h1, b1⟩
  obtain ⟨X1, d1, sh1⟩ := own_shape h1
  obtain rfl := sh1.val
  have SH1 := Lib.hid sh1; have HY1 := Lib.hid b1
  clear h1 b1 sh1 c1
  go_wp2_with (at_builtin; (refine wpList_mine rfl _ _ elmP _ rfl rfl ((Pcs.below (Pcs.below P0.out HY1.out (Nat.le_refl _)) (alloc_below _ _) (Nat.le_refl _)).mine) _ rfl 1 [.slice X1 (l1).length d1] (src_one X1 _ d1 _ rfl) (by simp) (by omega) (by simp; have := HB0.out.size; have := HB0.out.size; have := HY1.out.size; omega) ?_))
  intro Z1 z1 u1 m1 g1 e1
  have p1 : Pcs w.heap.size u1 Z1 z1 ([] ++ [⟨X1, l1, d1⟩]) := Pcs.push P0.out rfl HY1.out ⟨X1, l1, d1⟩ SH1.out.rd SH1.out.non (SH1.out.base) (alloc_below _ _) (by simp) m1 g1 e1
  have P1 : Hid (Pcs w.heap.size u1 Z1 z1 [⟨X1, l1, d1⟩]) := p1
  have Su1 : Hid (Below w0.heap.size w0 u1) := ((HY1.out).alloc HY1.out.size _).grown g1 (by simp; have := HY1.out.size; omega) (fun j e => ?_)
  rotate_left
  · cases e
  have Q1 : ∀ a, Z1 = some a → w0.heap.size ≤ a.block := fun a ha => by
    rcases e1 with e | e
    · rw [e] at ha; cases ha
    · have h3 : y1.heap.size ≤ a.block := Nat.le_trans (by simp) (e a ha)
      have := HY1.out.size; omega
  clear m1 g1 e1 p1
  go_wp2_with fail
  refine (has_mask 1 1 1 2 false _ (by omega) rfl (by omega) rfl (by decide)).mono ?_
  rintro e wx ⟨rfl, rfl⟩
  go_wp2_with fail
  refine (has_mask 1 2 1 4 false _ (by omega) rfl (by omega) rfl (by decide)).mono ?_
  rintro e wx ⟨rfl, rfl⟩
  go_wp2_with fail
  refine (has_mask 1 3 1 8 false _ (by omega) rfl (by omega) rfl (by decide)).mono ?_
  rintro e wx ⟨rfl, rfl⟩
  go_wp2_with fail
  refine (has_mask 1 4 1 16 false _ (by omega) rfl (by omega) rfl (by decide)).mono ?_
  rintro e wx ⟨rfl, rfl⟩
  go_wp2_with fail
  refine (has_mask 1 5 1 32 false _ (by omega) rfl (by omega) rfl (by decide)).mono ?_
  rintro e wx ⟨rfl, rfl⟩
  go_wp2_with fail
  refine (has_mask 1 6 1 64 false _ (by omega) rfl (by omega) rfl (by decide)).mono ?_
  rintro e wx ⟨rfl, rfl⟩
  go_wp2_with fail
  refine (has_mask 1 7 1 128 false _ (by omega) rfl (by omega) rfl (by decide)).mono ?_
  rintro e wx ⟨rfl, rfl⟩
  go_wp2_with fail
  refine (has_mask 1 8 1 256 false _ (by omega) rfl (by omega) rfl (by decide)).mono ?_
  rintro e wx ⟨rfl, rfl⟩
  go_wp2_with fail
  refine (show Calls _ _ _ _ (bytesPost u1 (flat [⟨X1, l1, d1⟩])) from concat_any Z1 [⟨X1, l1, d1⟩] z1 u1 (rs_pcs P1.out) (each_pcs P1.out) (by unfold flat; simp; have := LE1; omega) (by simp)).mono ?_
  rintro e y ⟨v, rfl, h, b⟩
  have H := Lib.hid h; have HY := Lib.hid b
  clear h b
  go_wp2_with fail
  go_ret
  refine ⟨v, rfl, ?_, (HB0.out.trans (Su1.out.mono HB0.out.size)).trans (HY.out.mono (HB0.out.trans (Su1.out.mono HB0.out.size)).size)⟩
  have h := own_base H.out (show w.heap.size ≤ u1.heap.size from (HB0.out.trans (Su1.out.mono HB0.out.size)).size)
  have hf : flat [⟨X1, l1, d1⟩] = l1 ++ ([]) := by unfold flat; simp
  rw [hf] at h
  rw [HL1.out] at h
  exact h
set_option maxRecDepth 100000 in
set_option maxHeartbeats 4000000 in
theorem pay4 (x : Com) (k : Nat) (hk : k < 15) (hop : x.c.op = (k : Int) + 1) (hm : maskN k = 4) (w : World) (he : Env w) (hr : Rc w x) (hb : Bnd x.c) (hK : x.c.keys.length ≤ 40) :
    Calls Tryd.prog 40 #[comV x] w (bytesPost w (encL x.c.keys ++ [])) := by
  unfold comV
  obtain ⟨w0, hw0⟩ : ∃ w0, w0 = w.alloc (comO x) := ⟨_, rfl⟩
  have B0 : Below w.heap.size w w0 := by rw [hw0]; exact alloc_below _ _
  have bx := Box.new w x
  rw [← hw0] at bx
  have BX := Lib.hid bx
  have hmk := he.mask k hk
  have hg0 := he.size
  rw [hm] at hmk
  have HR := Lib.hid (hr.below B0 (Nat.le_refl _))
  have HBD := Lib.hid hb
  have HB0 := Lib.hid B0
  have P0 : Hid (Pcs w.heap.size w0 none 0 []) := Pcs.nil _ _
  have c0 := bx.c0
  unfold comO at hw0
  have hlt := bx.lt
  rw [hop] at c0
  clear bx B0 he hr hb hm
  have hopz := Lib.hid hop
  rw [hop] at hw0 ⊢
  clear hop

  obtain ⟨l1, hl1⟩ : ∃ l, l = encL x.c.keys := ⟨_, rfl⟩
  have LE1 : l1.length ≤ 40000410 := by rw [hl1]; exact Nat.le_trans (encL_len _ HBD.out.eachK hK) (by omega)
  have HL1 := Lib.hid hl1; clear hl1
  go_enter Tryd.func40, Tryd.ntmps40
  go_wp2_with fail
  rw [← hw0]
  clear hw0
  refine (has_mask 4 0 4 1 false _ (by omega) rfl (by omega) rfl (by decide)).mono ?_
  rintro e wx ⟨rfl, rfl⟩
  go_wp2_with fail
  refine (has_mask 4 1 4 2 false _ (by omega) rfl (by omega) rfl (by decide)).mono ?_
  rintro e wx ⟨rfl, rfl⟩
  go_wp2_with fail
  refine (has_mask 4 2 4 4 true _ (by omega) rfl (by omega) rfl (by decide)).mono ?_
  rintro e wx ⟨rfl, rfl⟩
  have c2 := (BX.out.below (B := w0.heap.size) (Below.refl _ _) (Nat.le_refl _)).c2
  go_wp2_with fail
  refine (show Calls _ _ _ _ (bytesPost _ l1) from by rw [HL1.out]; exact list_any x.KA x.c.keys x.kc _ (HR.out.below (B := w0.heap.size) (Below.refl _ _) (Nat.le_refl _)).rk hK HBD.out.eachK).mono ?_
  rintro e y1 ⟨v1, rfl, h1, b1⟩
  obtain ⟨X1, d1, sh1⟩ := own_shape h1
  obtain rfl := sh1.val
  have SH1 := Lib.hid sh1; have HY1 := Lib.hid b1
  clear h1 b1 sh1 c2
  go_wp2_with (at_builtin; (refine wpList_mine rfl _ _ elmP _ rfl rfl ((Pcs.below (Pcs.below P0.out HY1.out (Nat.le_refl _)) (alloc_below _ _) (Nat.le_refl _)).mine) _ rfl 1 [.slice X1 (l1).length d1] (src_one X1 _ d1 _ rfl) (by simp) (by omega) (by simp; have := HB0.out.size; have := HB0.out.size; have := HY1.out.size; omega) ?_))
  intro Z1 z1 u1 m1 g1 e1
  have p1 : Pcs w.heap.size u1 Z1 z1 ([] ++ [⟨X1, l1, d1⟩]) := Pcs.push P0.out rfl HY1.out ⟨X1, l1, d1⟩ SH1.out.rd SH1.out.non (SH1.out.base) (alloc_below _ _) (by simp) m1 g1 e1
  have P1 : Hid (Pcs w.heap.size u1 Z1 z1 [⟨X1, l1, d1⟩]) := p1
  have Su1 : Hid (Below w0.heap.size w0 u1) := ((HY1.out).alloc HY1.out.size _).grown g1 (by simp; have := HY1.out.size; omega) (fun j e => ?_)
  rotate_left
  · cases e
  have Q1 : ∀ a, Z1 = some a → w0.heap.size ≤ a.block := fun a ha => by
    rcases e1 with e | e
    · rw [e] at ha; cases ha
    · have h3 : y1.heap.size ≤ a.block := Nat.le_trans (by simp) (e a ha)
      have := HY1.out.size; omega
  clear m1 g1 e1 p1
  go_wp2_with fail
  refine (has_mask 4 3 4 8 false _ (by omega) rfl (by omega) rfl (by decide)).mono ?_
  rintro e wx ⟨rfl, rfl⟩
  go_wp2_with fail
  refine (has_mask 4 4 4 16 false _ (by omega) rfl (by omega) rfl (by decide)).mono ?_
  rintro e wx ⟨rfl, rfl⟩
  go_wp2_with fail
  refine (has_mask 4 5 4 32 false _ (by omega) rfl (by omega) rfl (by decide)).mono ?_
  rintro e wx ⟨rfl, rfl⟩
  go_wp2_with fail
  refine (has_mask 4 6 4 64 false _ (by omega) rfl (by omega) rfl (by decide)).mono ?_
  rintro e wx ⟨rfl, rfl⟩
  go_wp2_with fail
  refine (has_mask 4 7 4 128 false _ (by omega) rfl (by omega) rfl (by decide)).mono ?_
  rintro e wx ⟨rfl, rfl⟩
  go_wp2_with fail
  refine (has_mask 4 8 4 256 false _ (by omega) rfl (by omega) rfl (by decide)).mono ?_
  rintro e wx ⟨rfl, rfl⟩
  go_wp2_with fail
  refine (show Calls _ _ _ _ (bytesPost u1 (flat [⟨X1, l1, d1⟩])) from concat_any Z1 [⟨X1, l1, d1⟩] z1 u1 (rs_pcs P1.out) (each_pcs P1.out) (by unfold flat; simp; have := LE1; omega) (by simp)).mono ?_
  rintro e y ⟨v, rfl, h, b⟩
  have H := Lib.hid h; have HY := Lib.hid b
  clear h b
  go_wp2_with fail
  go_ret
  refine ⟨v, rfl, ?_, (HB0.out.trans (Su1.out.mono HB0.out.size)).trans (HY.out.mono (HB0.out.trans (Su1.out.mono HB0.out.size)).size)⟩
  have h := own_base H.out (show w.heap.size ≤ u1.heap.size from (HB0.out.trans (Su1.out.mono HB0.out.size)).size)
  have hf : flat [⟨X1, l1, d1⟩] = l1 ++ ([]) := by unfold flat; simp
  rw [hf] at h
  rw [HL1.out] at h
  exact h
set_option maxRecDepth 100000 in
set_option maxHeartbeats 4000000 in
theorem pay33 (x : Com) (k : Nat) (hk : k < 15) (hop : x.c.op = (k : Int) + 1) (hm : maskN k = 33) (w : World) (he : Env w) (hr : Rc w x) (hb : Bnd x.c) :
    Calls Tryd.prog 40 #[comV x] w (bytesPost w (encS x.c.key ++ (encN x.c.life ++ []))) := by
  unfold comV
  obtain ⟨w0, hw0⟩ : ∃ w0, w0 = w.alloc (comO x) := ⟨_, rfl⟩
  have B0 : Below w.heap.size w w0 := by rw [hw0]; exact alloc_below _ _
  have bx := Box.new w x
  rw [← hw0] at bx
  have BX := Lib.hid bx
  have hmk := he.mask k hk
  have hg0 := he.size
  rw [hm] at hmk
  have HR := Lib.hid (hr.below B0 (Nat.le_refl _))
  have HBD := Lib.hid hb
  have HB0 := Lib.hid B0
  have P0 : Hid (Pcs w.heap.size w0 none 0 []) := Pcs.nil _ _
  have c0 := bx.c0
  unfold comO at hw0
  have hlt := bx.lt
  rw [hop] at c0
  clear bx B0 he hr hb hm
  have hopz := Lib.hid hop
  rw [hop] at hw0 ⊢
  clear hop

  obtain ⟨l1, hl1⟩ : ∃ l, l = encS x.c.key := ⟨_, rfl⟩
  have LE1 : l1.length ≤ 40000410 := by rw [hl1]; exact Nat.le_trans (encS_len _ HBD.out.key) (by omega)
  have HL1 := Lib.hid hl1; clear hl1
  obtain ⟨l2, hl2⟩ : ∃ l, l = encN x.c.life := ⟨_, rfl⟩
  have LE2 : l2.length ≤ 40000410 := by rw [hl2]; exact Nat.le_trans (enc_le _ (by have := HBD.out.life; unfold big; omega)) (by omega)
  have HL2 := Lib.hid hl2; clear hl2
  go_enter Tryd.func40, Tryd.ntmps40
  go_wp2_with fail
  rw [← hw0]
  clear hw0
  refine (has_mask 33 0 33 1 true _ (by omega) rfl (by omega) rfl (by decide)).mono ?_
  rintro e wx ⟨rfl, rfl⟩
  have c1 := (BX.out.below (B := w0.heap.size) (Below.refl _ _) (Nat.le_refl _)).c1
  go_wp2_with fail
  refine (show Calls _ _ _ _ (bytesPost _ l1) from by rw [HL1.out]; exact text_any x.c.key _ HBD.out.key).mono ?_
  rintro e y1 ⟨v1, rfl, h1, b1⟩
  obtain ⟨X1, d1, sh1⟩ := own_shape h1
  obtain rfl := sh1.val
  have SH1 := Lib.hid sh1; have HY1 := Lib.hid b1
  clear h1 b1 sh1 c1
  go_wp2_with (at_builtin; (refine wpList_mine rfl _ _ elmP _ rfl rfl ((Pcs.below (Pcs.below P0.out HY1.out (Nat.le_refl _)) (alloc_below _ _) (Nat.le_refl _)).mine) _ rfl 1 [.slice X1 (l1).length d1] (src_one X1 _ d1 _ rfl) (by simp) (by omega) (by simp; have := HB0.out.size; have := HB0.out.size; have := HY1.out.size; omega) ?_))
  intro Z1 z1 u1 m1 g1 e1
  have p1 : Pcs w.heap.size u1 Z1 z1 ([] ++ [⟨X1, l1, d1⟩]) := Pcs.push P0.out rfl HY1.out ⟨X1, l1, d1⟩ SH1.out.rd SH1.out.non (SH1.out.base) (alloc_below _ _) (by simp) m1 g1 e1
  have P1 : Hid (Pcs w.heap.size u1 Z1 z1 [⟨X1, l1, d1⟩]) := p1
  have Su1 : Hid (Below w0.heap.size w0 u1) := ((HY1.out).alloc HY1.out.size _).grown g1 (by simp; have := HY1.out.size; omega) (fun j e => ?_)
  rotate_left
  · cases e
  have Q1 : ∀ a, Z1 = some a → w0.heap.size ≤ a.block := fun a ha => by
    rcases e1 with e | e
    · rw [e] at ha; cases ha
    · have h3 : y1.heap.size ≤ a.block := Nat.le_trans (by simp) (e a ha)
      have := HY1.out.size; omega
  clear m1 g1 e1 p1
  go_wp2_with fail
  refine (has_mask 33 1 33 2 false _ (by omega) rfl (by omega) rfl (by decide)).mono ?_
  rintro e wx ⟨rfl, rfl⟩
  go_wp2_with fail
  refine (has_mask 33 2 33 4 false _ (by omega) rfl (by omega) rfl (by decide)).mono ?_
  rintro e wx ⟨rfl, rfl⟩
  go_wp2_with fail
  refine (has_mask 33 3 33 8 false _ (by omega) rfl (by omega) rfl (by decide)).mono ?_
  rintro e wx ⟨rfl, rfl⟩
  go_wp2_with fail
  refine (has_mask 33 4 33 16 false _ (by omega) rfl (by omega) rfl (by decide)).mono ?_
  rintro e wx ⟨rfl, rfl⟩
  go_wp2_with fail
  refine (has_mask 33 5 33 32 true _ (by omega) rfl (by omega) rfl (by decide)).mono ?_
  rintro e wx ⟨rfl, rfl⟩
  have c5 := (BX.out.below (B := w0.heap.size) (Su1.out) (Nat.le_refl _)).c5
  go_wp2_with fail
  refine (show Calls _ _ _ _ (bytesPost _ l2) from by rw [HL2.out]; exact put_any none [] 0 x.c.life _ (Rb.nil _ _) (fun _ => rfl) (by simp) (by have := HBD.out.life; unfold big; omega)).mono ?_
  rintro e y2 ⟨v2, rfl, h2, b2⟩
  obtain ⟨X2, d2, sh2⟩ := own_shape h2
  obtain rfl := sh2.val
  have SH2 := Lib.hid sh2; have HY2 := Lib.hid b2
  clear h2 b2 sh2 c5
  go_wp2_with (at_builtin; (refine wpList_mine rfl _ _ elmP _ rfl rfl ((Pcs.below (Pcs.below P1.out HY2.out (Nat.le_refl _)) (alloc_below _ _) (Nat.le_refl _)).mine) _ rfl 1 [.slice X2 (l2).length d2] (src_one X2 _ d2 _ rfl) (by simp) (by omega) (by simp; have := HB0.out.size; have := Su1.out.size; have := HY2.out.size; omega) ?_))
  intro Z2 z2 u2 m2 g2 e2
  have p2 : Pcs w.heap.size u2 Z2 z2 ([⟨X1, l1, d1⟩] ++ [⟨X2, l2, d2⟩]) := Pcs.push P1.out rfl HY2.out ⟨X2, l2, d2⟩ SH2.out.rd SH2.out.non (SH2.out.base) (alloc_below _ _) (by simp) m2 g2 e2
  have P2 : Hid (Pcs w.heap.size u2 Z2 z2 [⟨X1, l1, d1⟩, ⟨X2, l2, d2⟩]) := p2
  have Su2 : Hid (Below w0.heap.size w0 u2) := (((Su1.out.trans (HY2.out.mono Su1.out.size)).alloc (Nat.le_trans Su1.out.size HY2.out.size) _)).grown g2 (by simp; have := Su1.out.size; have := HY2.out.size; omega) (fun j e => ?_)
  rotate_left
  · rw [Option.map_eq_some_iff] at e; obtain ⟨a, ha, rfl⟩ := e; exact Q1 a ha
  have Q2 : ∀ a, Z2 = some a → w0.heap.size ≤ a.block := fun a ha => by
    rcases e2 with e | e
    · rw [e] at ha; exact Q1 a ha
    · have h3 : y2.heap.size ≤ a.block := Nat.le_trans (by simp) (e a ha)
      have := HY2.out.size; have := Su1.out.size; omega
  clear m2 g2 e2 p2
  go_wp2_with fail
  refine (has_mask 33 6 33 64 false _ (by omega) rfl (by omega) rfl (by decide)).mono ?_
  rintro e wx ⟨rfl, rfl⟩
  go_wp2_with fail
  refine (has_mask 33 7 33 128 false _ (by omega) rfl (by omega) rfl (by decide)).mono ?_
  rintro e wx ⟨rfl, rfl⟩
  go_wp2_with fail
  refine (has_mask 33 8 33 256 false _ (by omega) rfl (by omega) rfl (by decide)).mono ?_
  rintro e wx ⟨rfl, rfl⟩
  go_wp2_with fail
  refine (show Calls _ _ _ _ (bytesPost u2 (flat [⟨X1, l1, d1⟩, ⟨X2, l2, d2⟩])) from concat_any Z2 [⟨X1, l1, d1⟩, ⟨X2, l2, d2⟩] z2 u2 (rs_pcs P2.out) (each_pcs P2.out) (by unfold flat; simp; have := LE1; have := LE2; omega) (by simp)).mono ?_
  rintro e y ⟨v, rfl, h, b⟩
  have H := Lib.hid h; have HY := Lib.hid b
  clear h b
  go_wp2_with fail
  go_ret
  refine ⟨v, rfl, ?_, (HB0.out.trans (Su2.out.mono HB0.out.size)).trans (HY.out.mono (HB0.out.trans (Su2.out.mono HB0.out.size)).size)⟩
  have h := own_base H.out (show w.heap.size ≤ u2.heap.size from (HB0.out.trans (Su2.out.mono HB0.out.size)).size)
  have hf : flat [⟨X1, l1, d1⟩, ⟨X2, l2, d2⟩] = l1 ++ (l2 ++ ([])) := by unfold flat; simp
  rw [hf] at h
  rw [HL1.out, HL2.out] at h
  exact h
set_option maxRecDepth 100000 in
set_option maxHeartbeats 4000000 in
theorem pay128 (x : Com) (k : Nat) (hk : k < 15) (hop : x.c.op = (k : Int) + 1) (hm : maskN k = 128) (w : World) (he : Env w) (hr : Rc w x) (hb : Bnd x.c) :
    Calls Tryd.prog 40 #[comV x] w (bytesPost w (encS x.c.tag ++ [])) := by
  unfold comV
  obtain ⟨w0, hw0⟩ : ∃ w0, w0 = w.alloc (comO x) := ⟨_, rfl⟩
  have B0 : Below w.heap.size w w0 := by rw [hw0]; exact alloc_below _ _
  have bx := Box.new w x
  rw [← hw0] at bx
  have BX := Lib.hid bx
  have hmk := he.mask k hk
  have hg0 := he.size
  rw [hm] at hmk
  have HR := Lib.hid (hr.below B0 (Nat.le_refl _))
  have HBD := Lib.hid hb
  have HB0 := Lib.hid B0
  have P0 : Hid (Pcs w.heap.size w0 none 0 []) := Pcs.nil _ _
  have c0 := bx.c0
  unfold comO at hw0
  have hlt := bx.lt
  rw [hop] at c0
  clear bx B0 he hr hb hm
  have hopz := Lib.hid hop
  rw [hop] at hw0 ⊢
  clear hop

  obtain ⟨l1, hl1⟩ : ∃ l, l = encS x.c.tag := ⟨_, rfl⟩
  have LE1 : l1.length ≤ 40000410 := by rw [hl1]; exact Nat.le_trans (encS_len _ HBD.out.tag) (by omega)
  have HL1 := Lib.hid hl1; clear hl1
  go_enter Tryd.func40, Tryd.ntmps40
  go_wp2_with fail
  rw [← hw0]
  clear hw0
  refine (has_mask 128 0 128 1 false _ (by omega) rfl (by omega) rfl (by decide)).mono ?_
  rintro e wx ⟨rfl, rfl⟩
  go_wp2_with fail
  refine (has_mask 128 1 128 2 false _ (by omega) rfl (by omega) rfl (by decide)).mono ?_
  rintro e wx ⟨rfl, rfl⟩
  go_wp2_with fail
  refine (has_mask 128 2 128 4 false _ (by omega) rfl (by omega) rfl (by decide)).mono ?_
  rintro e wx ⟨rfl, rfl⟩
  go_wp2_with fail
  refine (has_mask 128 3 128 8 false _ (by omega) rfl (by omega) rfl (by decide)).mono ?_
  rintro e wx ⟨rfl, rfl⟩
  go_wp2_with fail
  refine (has_mask 128 4 128 16 false _ (by omega) rfl (by omega) rfl (by decide)).mono ?_
  rintro e wx ⟨rfl, rfl⟩
  go_wp2_with fail
  refine (has_mask 128 5 128 32 false _ (by omega) rfl (by omega) rfl (by decide)).mono ?_
  rintro e wx ⟨rfl, rfl⟩
  go_wp2_with fail
  refine (has_mask 128 6 128 64 false _ (by omega) rfl (by omega) rfl (by decide)).mono ?_
  rintro e wx ⟨rfl, rfl⟩
  go_wp2_with fail
  refine (has_mask 128 7 128 128 true _ (by omega) rfl (by omega) rfl (by decide)).mono ?_
  rintro e wx ⟨rfl, rfl⟩
  have c7 := (BX.out.below (B := w0.heap.size) (Below.refl _ _) (Nat.le_refl _)).c7
  go_wp2_with fail
  refine (show Calls _ _ _ _ (bytesPost _ l1) from by rw [HL1.out]; exact text_any x.c.tag _ HBD.out.tag).mono ?_
  rintro e y1 ⟨v1, rfl, h1, b1⟩
  obtain ⟨X1, d1, sh1⟩ := own_shape h1
  obtain rfl := sh1.val
  have SH1 := Lib.hid sh1; have HY1 := Lib.hid b1
  clear h1 b1 sh1 c7
  go_wp2_with (at_builtin; (refine wpList_mine rfl _ _ elmP _ rfl rfl ((Pcs.below (Pcs.below P0.out HY1.out (Nat.le_refl _)) (alloc_below _ _) (Nat.le_refl _)).mine) _ rfl 1 [.slice X1 (l1).length d1] (src_one X1 _ d1 _ rfl) (by simp) (by omega) (by simp; have := HB0.out.size; have := HB0.out.size; have := HY1.out.size; omega) ?_))
  intro Z1 z1 u1 m1 g1 e1
  have p1 : Pcs w.heap.size u1 Z1 z1 ([] ++ [⟨X1, l1, d1⟩]) := Pcs.push P0.out rfl HY1.out ⟨X1, l1, d1⟩ SH1.out.rd SH1.out.non (SH1.out.base) (alloc_below _ _) (by simp) m1 g1 e1
  have P1 : Hid (Pcs w.heap.size u1 Z1 z1 [⟨X1, l1, d1⟩]) := p1
  have Su1 : Hid (Below w0.heap.size w0 u1) := ((HY1.out).alloc HY1.out.size _).grown g1 (by simp; have := HY1.out.size; omega) (fun j e => ?_)
  rotate_left
  · cases e
  have Q1 : ∀ a, Z1 = some a → w0.heap.size ≤ a.block := fun a ha => by
    rcases e1 with e | e
    · rw [e] at ha; cases ha
    · have h3 : y1.heap.size ≤ a.block := Nat.le_trans (by simp) (e a ha)
      have := HY1.out.size; omega
  clear m1 g1 e1 p1
  go_wp2_with fail
  refine (has_mask 128 8 128 256 false _ (by omega) rfl (by omega) rfl (by decide)).mono ?_
  rintro e wx ⟨rfl, rfl⟩
  go_wp2_with fail
  refine (show Calls _ _ _ _ (bytesPost u1 (flat [⟨X1, l1, d1⟩])) from concat_any Z1 [⟨X1, l1, d1⟩] z1 u1 (rs_pcs P1.out) (each_pcs P1.out) (by unfold flat; simp; have := LE1; omega) (by simp)).mono ?_
  rintro e y ⟨v, rfl, h, b⟩
  have H := Lib.hid h; have HY := Lib.hid b
  clear h b
  go_wp2_with fail
  go_ret
  refine ⟨v, rfl, ?_, (HB0.out.trans (Su1.out.mono HB0.out.size)).trans (HY.out.mono (HB0.out.trans (Su1.out.mono HB0.out.size)).size)⟩
  have h := own_base H.out (show w.heap.size ≤ u1.heap.size from (HB0.out.trans (Su1.out.mono HB0.out.size)).size)
  have hf : flat [⟨X1, l1, d1⟩] = l1 ++ ([]) := by unfold flat; simp
  rw [hf] at h
  rw [HL1.out] at h
  exact h
set_option maxRecDepth 100000 in
set_option maxHeartbeats 4000000 in
theorem pay256 (x : Com) (k : Nat) (hk : k < 15) (hop : x.c.op = (k : Int) + 1) (hm : maskN k = 256) (w : World) (he : Env w) (hr : Rc w x) (hb : Bnd x.c) :
    Calls Tryd.prog 40 #[comV x] w (bytesPost w (encS x.c.pre ++ [])) := by
  unfold comV
  obtain ⟨w0, hw0⟩ : ∃ w0, w0 = w.alloc (comO x) := ⟨_, rfl⟩
  have B0 : Below w.heap.size w w0 := by rw [hw0]; exact alloc_below _ _
  have bx := Box.new w x
  rw [← hw0] at bx
  have BX := Lib.hid bx
  have hmk := he.mask k hk
  have hg0 := he.size
  rw [hm] at hmk
  have HR := Lib.hid (hr.below B0 (Nat.le_refl _))
  have HBD := Lib.hid hb
  have HB0 := Lib.hid B0
  have P0 : Hid (Pcs w.heap.size w0 none 0 []) := Pcs.nil _ _
  have c0 := bx.c0
  unfold comO at hw0
  have hlt := bx.lt
  rw [hop] at c0
  clear bx B0 he hr hb hm
  have hopz := Lib.hid hop
  rw [hop] at hw0 ⊢
  clear hop

  obtain ⟨l1, hl1⟩ : ∃ l, l = encS x.c.pre := ⟨_, rfl⟩
  have LE1 : l1.length ≤ 40000410 := by rw [hl1]; exact Nat.le_trans (encS_len _ HBD.out.pre) (by omega)
  have HL1 := Lib.hid hl1; clear hl1
  go_enter Tryd.func40, Tryd.ntmps40
  go_wp2_with fail
  rw [← hw0]
  clear hw0
  refine (has_mask 256 0 256 1 false _ (by omega) rfl (by omega) rfl (by decide)).mono ?_
  rintro e wx ⟨rfl, rfl⟩
  go_wp2_with fail
  refine (has_mask 256 1 256 2 false _ (by omega) rfl (by omega) rfl (by decide)).mono ?_
  rintro e wx ⟨rfl, rfl⟩
  go_wp2_with fail
  refine (has_mask 256 2 256 4 false _ (by omega) rfl (by omega) rfl (by decide)).mono ?_
  rintro e wx ⟨rfl, rfl⟩
  go_wp2_with fail
  refine (has_mask 256 3 256 8 false _ (by omega) rfl (by omega) rfl (by decide)).mono ?_
  rintro e wx ⟨rfl, rfl⟩
  go_wp2_with fail
  refine (has_mask 256 4 256 16 false _ (by omega) rfl (by omega) rfl (by decide)).mono ?_
  rintro e wx ⟨rfl, rfl⟩
  go_wp2_with fail
  refine (has_mask 256 5 256 32 false _ (by omega) rfl (by omega) rfl (by decide)).mono ?_
  rintro e wx ⟨rfl, rfl⟩
  go_wp2_with fail
  refine (has_mask 256 6 256 64 false _ (by omega) rfl (by omega) rfl (by decide)).mono ?_
  rintro e wx ⟨rfl, rfl⟩
  go_wp2_with fail
  refine (has_mask 256 7 256 128 false _ (by omega) rfl (by omega) rfl (by decide)).mono ?_
  rintro e wx ⟨rfl, rfl⟩
  go_wp2_with fail
  refine (has_mask 256 8 256 256 true _ (by omega) rfl (by omega) rfl (by decide)).mono ?_
  rintro e wx ⟨rfl, rfl⟩
  have c8 := (BX.out.below (B := w0.heap.size) (Below.refl _ _) (Nat.le_refl _)).c8
  go_wp2_with fail
  refine (show Calls _ _ _ _ (bytesPost _ l1) from by rw [HL1.out]; exact text_any x.c.pre _ HBD.out.pre).mono ?_
  rintro e y1 ⟨v1, rfl, h1, b1⟩
  obtain ⟨X1, d1, sh1⟩ := own_shape h1
  obtain rfl := sh1.val
  have SH1 := Lib.hid sh1; have HY1 := Lib.hid b1
  clear h1 b1 sh1 c8
  go_wp2_with (at_builtin; (refine wpList_mine rfl _ _ elmP _ rfl rfl ((Pcs.below (Pcs.below P0.out HY1.out (Nat.le_refl _)) (alloc_below _ _) (Nat.le_refl _)).mine) _ rfl 1 [.slice X1 (l1).length d1] (src_one X1 _ d1 _ rfl) (by simp) (by omega) (by simp; have := HB0.out.size; have := HB0.out.size; have := HY1.out.size; omega) ?_))
  intro Z1 z1 u1 m1 g1 e1
  have p1 : Pcs w.heap.size u1 Z1 z1 ([] ++ [⟨X1, l1, d1⟩]) := Pcs.push P0.out rfl HY1.out ⟨X1, l1, d1⟩ SH1.out.rd SH1.out.non (SH1.out.base) (alloc_below _ _) (by simp) m1 g1 e1
  have P1 : Hid (Pcs w.heap.size u1 Z1 z1 [⟨X1, l1, d1⟩]) := p1
  have Su1 : Hid (Below w0.heap.size w0 u1) := ((HY1.out).alloc HY1.out.size _).grown g1 (by simp; have := HY1.out.size; omega) (fun j e => ?_)
  rotate_left
  · cases e
  have Q1 : ∀ a, Z1 = some a → w0.heap.size ≤ a.block := fun a ha => by
    rcases e1 with e | e
    · rw [e] at ha; cases ha
    · have h3 : y1.heap.size ≤ a.block := Nat.le_trans (by simp) (e a ha)
      have := HY1.out.size; omega
  clear m1 g1 e1 p1
  go_wp2_with fail
  refine (show Calls _ _ _ _ (bytesPost u1 (flat [⟨X1, l1, d1⟩])) from concat_any Z1 [⟨X1, l1, d1⟩] z1 u1 (rs_pcs P1.out) (each_pcs P1.out) (by unfold flat; simp; have := LE1; omega) (by simp)).mono ?_
  rintro e y ⟨v, rfl, h, b⟩
  have H := Lib.hid h; have HY := Lib.hid b
  clear h b
  go_wp2_with fail
  go_ret
  refine ⟨v, rfl, ?_, (HB0.out.trans (Su1.out.mono HB0.out.size)).trans (HY.out.mono (HB0.out.trans (Su1.out.mono HB0.out.size)).size)⟩
  have h := own_base H.out (show w.heap.size ≤ u1.heap.size from (HB0.out.trans (Su1.out.mono HB0.out.size)).size)
  have hf : flat [⟨X1, l1, d1⟩] = l1 ++ ([]) := by unfold flat; simp
  rw [hf] at h
  rw [HL1.out] at h
  exact h
set_option maxRecDepth 100000 in
set_option maxHeartbeats 4000000 in
theorem pay3 (x : Com) (k : Nat) (hk : k < 15) (hop : x.c.op = (k : Int) + 1) (hm : maskN k = 3) (w : World) (he : Env w) (hr : Rc w x) (hb : Bnd x.c) :
    Calls Tryd.prog 40 #[comV x] w (bytesPost w (encS x.c.key ++ (encS x.c.child ++ []))) := by
  unfold comV
  obtain ⟨w0, hw0⟩ : ∃ w0, w0 = w.alloc (comO x) := ⟨_, rfl⟩
  have B0 : Below w.heap.size w w0 := by rw [hw0]; exact alloc_below _ _
  have bx := Box.new w x
  rw [← hw0] at bx
  have BX := Lib.hid bx
  have hmk := he.mask k hk
  have hg0 := he.size
  rw [hm] at hmk
  have HR := Lib.hid (hr.below B0 (Nat.le_refl _))
  have HBD := Lib.hid hb
  have HB0 := Lib.hid B0
  have P0 : Hid (Pcs w.heap.size w0 none 0 []) := Pcs.nil _ _
  have c0 := bx.c0
  unfold comO at hw0
  have hlt := bx.lt
  rw [hop] at c0
  clear bx B0 he hr hb hm
  have hopz := Lib.hid hop
  rw [hop] at hw0 ⊢
  clear hop

  obtain ⟨l1, hl1⟩ : ∃ l, l = encS x.c.key := ⟨_, rfl⟩
  have LE1 : l1.length ≤ 40000410 := by rw [hl1]; exact Nat.le_trans (encS_len _ HBD.out.key) (by omega)
  have HL1 := Lib.hid hl1; clear hl1
  obtain ⟨l2, hl2⟩ : ∃ l, l = encS x.c.child := ⟨_, rfl⟩
  have LE2 : l2.length ≤ 40000410 := by rw [hl2]; exact Nat.le_trans (encS_len _ HBD.out.child) (by omega)
  have HL2 := Lib.hid hl2; clear hl2
  go_enter Tryd.func40, Tryd.ntmps40
  go_wp2_with fail
  rw [← hw0]
  clear hw0
  refine (has_mask 3 0 3 1 true _ (by omega) rfl (by omega) rfl (by decide)).mono ?_
  rintro e wx ⟨rfl, rfl⟩
  have c1 := (BX.out.below (B := w0.heap.size) (Below.refl _ _) (Nat.le_refl _)).c1
  go_wp2_with fail
  refine (show Calls _ _ _ _ (bytesPost _ l1) from by rw [HL1.out]; exact text_any x.c.key _ HBD.out.key).mono ?_
  rintro e y1 ⟨v1, rfl, h1, b1⟩
  obtain ⟨X1, d1, sh1⟩ := own_shape h1
  obtain rfl := sh1.val
  have SH1 := Lib.hid sh1; have HY1 := Lib.hid b1
  clear h1 b1 sh1 c1
  go_wp2_with (at_builtin; (refine wpList_mine rfl _ _ elmP _ rfl rfl ((Pcs.below (Pcs.below P0.out HY1.out (Nat.le_refl _)) (alloc_below _ _) (Nat.le_refl _)).mine) _ rfl 1 [.slice X1 (l1).length d1] (src_one X1 _ d1 _ rfl) (by simp) (by omega) (by simp; have := HB0.out.size; have := HB0.out.size; have := HY1.out.size; omega) ?_))
  intro Z1 z1 u1 m1 g1 e1
  have p1 : Pcs w.heap.size u1 Z1 z1 ([] ++ [⟨X1, l1, d1⟩]) := Pcs.push P0.out rfl HY1.out ⟨X1, l1, d1⟩ SH1.out.rd SH1.out.non (SH1.out.base) (alloc_below _ _) (by simp) m1 g1 e1
  have P1 : Hid (Pcs w.heap.size u1 Z1 z1 [⟨X1, l1, d1⟩]) := p1
  have Su1 : Hid (Below w0.heap.size w0 u1) := ((HY1.out).alloc HY1.out.size _).grown g1 (by simp; have := HY1.out.size; omega) (fun j e => ?_)
  rotate_left
  · cases e
  have Q1 : ∀ a, Z1 = some a → w0.heap.size ≤ a.block := fun a ha => by
    rcases e1 with e | e
    · rw [e] at ha; cases ha
    · have h3 : y1.heap.size ≤ a.block := Nat.le_trans (by simp) (e a ha)
      have := HY1.out.size; omega
  clear m1 g1 e1 p1
  go_wp2_with fail
  refine (has_mask 3 1 3 2 true _ (by omega) rfl (by omega) rfl (by decide)).mono ?_
  rintro e wx ⟨rfl, rfl⟩
  have c9 := (BX.out.below (B := w0.heap.size) (Su1.out) (Nat.le_refl _)).c9
  go_wp2_with fail
  refine (show Calls _ _ _ _ (bytesPost _ l2) from by rw [HL2.out]; exact text_any x.c.child _ HBD.out.child).mono ?_
  rintro e y2 ⟨v2, rfl, h2, b2⟩
  obtain ⟨X2, d2, sh2⟩ := own_shape h2
  obtain rfl := sh2.val
  have SH2 := Lib.hid sh2; have HY2 := Lib.hid b2
  clear h2 b2 sh2 c9
  go_wp2_with (at_builtin; (refine wpList_mine rfl _ _ elmP _ rfl rfl ((Pcs.below (Pcs.below P1.out HY2.out (Nat.le_refl _)) (alloc_below _ _) (Nat.le_refl _)).mine) _ rfl 1 [.slice X2 (l2).length d2] (src_one X2 _ d2 _ rfl) (by simp) (by omega) (by simp; have := HB0.out.size; have := Su1.out.size; have := HY2.out.size; omega) ?_))
  intro Z2 z2 u2 m2 g2 e2
  have p2 : Pcs w.heap.size u2 Z2 z2 ([⟨X1, l1, d1⟩] ++ [⟨X2, l2, d2⟩]) := Pcs.push P1.out rfl HY2.out ⟨X2, l2, d2⟩ SH2.out.rd SH2.out.non (SH2.out.base) (alloc_below _ _) (by simp) m2 g2 e2
  have P2 : Hid (Pcs w.heap.size u2 Z2 z2 [⟨X1, l1, d1⟩, ⟨X2, l2, d2⟩]) := p2
  have Su2 : Hid (Below w0.heap.size w0 u2) := (((Su1.out.trans (HY2.out.mono Su1.out.size)).alloc (Nat.le_trans Su1.out.size HY2.out.size) _)).grown g2 (by simp; have := Su1.out.size; have := HY2.out.size; omega) (fun j e => ?_)
  rotate_left
  · rw [Option.map_eq_some_iff] at e; obtain ⟨a, ha, rfl⟩ := e; exact Q1 a ha
  have Q2 : ∀ a, Z2 = some a → w0.heap.size ≤ a.block := fun a ha => by
    rcases e2 with e | e
    · rw [e] at ha; exact Q1 a ha
    · have h3 : y2.heap.size ≤ a.block := Nat.le_trans (by simp) (e a ha)
      have := HY2.out.size; have := Su1.out.size; omega
  clear m2 g2 e2 p2
  go_wp2_with fail
  refine (has_mask 3 2 3 4 false _ (by omega) rfl (by omega) rfl (by decide)).mono ?_
  rintro e wx ⟨rfl, rfl⟩
  go_wp2_with fail
  refine (has_mask 3 3 3 8 false _ (by omega) rfl (by omega) rfl (by decide)).mono ?_
  rintro e wx ⟨rfl, rfl⟩
  go_wp2_with fail
  refine (has_mask 3 4 3 16 false _ (by omega) rfl (by omega) rfl (by decide)).mono ?_
  rintro e wx ⟨rfl, rfl⟩
  go_wp2_with fail
  refine (has_mask 3 5 3 32 false _ (by omega) rfl (by omega) rfl (by decide)).mono ?_
  rintro e wx ⟨rfl, rfl⟩
  go_wp2_with fail
  refine (has_mask 3 6 3 64 false _ (by omega) rfl (by omega) rfl (by decide)).mono ?_
  rintro e wx ⟨rfl, rfl⟩
  go_wp2_with fail
  refine (has_mask 3 7 3 128 false _ (by omega) rfl (by omega) rfl (by decide)).mono ?_
  rintro e wx ⟨rfl, rfl⟩
  go_wp2_with fail
  refine (has_mask 3 8 3 256 false _ (by omega) rfl (by omega) rfl (by decide)).mono ?_
  rintro e wx ⟨rfl, rfl⟩
  go_wp2_with fail
  refine (show Calls _ _ _ _ (bytesPost u2 (flat [⟨X1, l1, d1⟩, ⟨X2, l2, d2⟩])) from concat_any Z2 [⟨X1, l1, d1⟩, ⟨X2, l2, d2⟩] z2 u2 (rs_pcs P2.out) (each_pcs P2.out) (by unfold flat; simp; have := LE1; have := LE2; omega) (by simp)).mono ?_
  rintro e y ⟨v, rfl, h, b⟩
  have H := Lib.hid h; have HY := Lib.hid b
  clear h b
  go_wp2_with fail
  go_ret
  refine ⟨v, rfl, ?_, (HB0.out.trans (Su2.out.mono HB0.out.size)).trans (HY.out.mono (HB0.out.trans (Su2.out.mono HB0.out.size)).size)⟩
  have h := own_base H.out (show w.heap.size ≤ u2.heap.size from (HB0.out.trans (Su2.out.mono HB0.out.size)).size)
  have hf : flat [⟨X1, l1, d1⟩, ⟨X2, l2, d2⟩] = l1 ++ (l2 ++ ([])) := by unfold flat; simp
  rw [hf] at h
  rw [HL1.out, HL2.out] at h
  exact h
set_option maxRecDepth 100000 in
set_option maxHeartbeats 4000000 in
theorem pay0 (x : Com) (k : Nat) (hk : k < 15) (hop : x.c.op = (k : Int) + 1) (hm : maskN k = 0) (w : World) (he : Env w) (hr : Rc w x) (hb : Bnd x.c) :
    Calls Tryd.prog 40 #[comV x] w (bytesPost w ([])) := by
  unfold comV
  obtain ⟨w0, hw0⟩ : ∃ w0, w0 = w.alloc (comO x) := ⟨_, rfl⟩
  have B0 : Below w.heap.size w w0 := by rw [hw0]; exact alloc_below _ _
  have bx := Box.new w x
  rw [← hw0] at bx
  have BX := Lib.hid bx
  have hmk := he.mask k hk
  have hg0 := he.size
  rw [hm] at hmk
  have HR := Lib.hid (hr.below B0 (Nat.le_refl _))
  have HBD := Lib.hid hb
  have HB0 := Lib.hid B0
  have P0 : Hid (Pcs w.heap.size w0 none 0 []) := Pcs.nil _ _
  have c0 := bx.c0
  unfold comO at hw0
  have hlt := bx.lt
  rw [hop] at c0
  clear bx B0 he hr hb hm
  have hopz := Lib.hid hop
  rw [hop] at hw0 ⊢
  clear hop

  go_enter Tryd.func40, Tryd.ntmps40
  go_wp2_with fail
  rw [← hw0]
  clear hw0
  refine (has_mask 0 0 0 1 false _ (by omega) rfl (by omega) rfl (by decide)).mono ?_
  rintro e wx ⟨rfl, rfl⟩
  go_wp2_with fail
  refine (has_mask 0 1 0 2 false _ (by omega) rfl (by omega) rfl (by decide)).mono ?_
  rintro e wx ⟨rfl, rfl⟩
  go_wp2_with fail
  refine (has_mask 0 2 0 4 false _ (by omega) rfl (by omega) rfl (by decide)).mono ?_
  rintro e wx ⟨rfl, rfl⟩
  go_wp2_with fail
  refine (has_mask 0 3 0 8 false _ (by omega) rfl (by omega) rfl (by decide)).mono ?_
  rintro e wx ⟨rfl, rfl⟩
  go_wp2_with fail
  refine (has_mask 0 4 0 16 false _ (by omega) rfl (by omega) rfl (by decide)).mono ?_
  rintro e wx ⟨rfl, rfl⟩
  go_wp2_with fail
  refine (has_mask 0 5 0 32 false _ (by omega) rfl (by omega) rfl (by decide)).mono ?_
  rintro e wx ⟨rfl, rfl⟩
  go_wp2_with fail
  refine (has_mask 0 6 0 64 false _ (by omega) rfl (by omega) rfl (by decide)).mono ?_
  rintro e wx ⟨rfl, rfl⟩
  go_wp2_with fail
  refine (has_mask 0 7 0 128 false _ (by omega) rfl (by omega) rfl (by decide)).mono ?_
  rintro e wx ⟨rfl, rfl⟩
  go_wp2_with fail
  refine (has_mask 0 8 0 256 false _ (by omega) rfl (by omega) rfl (by decide)).mono ?_
  rintro e wx ⟨rfl, rfl⟩
  go_wp2_with fail
  refine (show Calls _ _ _ _ (bytesPost w0 (flat [])) from concat_any none [] 0 w0 (rs_pcs P0.out) (each_pcs P0.out) (by unfold flat; simp) (by simp)).mono ?_
  rintro e y ⟨v, rfl, h, b⟩
  have H := Lib.hid h; have HY := Lib.hid b
  clear h b
  go_wp2_with fail
  go_ret
  refine ⟨v, rfl, ?_, HB0.out.trans (HY.out.mono HB0.out.size)⟩
  have h := own_base H.out (show w.heap.size ≤ w0.heap.size from HB0.out.size)
  have hf : flat [] = [] := by unfold flat; simp
  rw [hf] at h
  exact h
end Go.Proofs.YtefadkdngcbpiaaDoor.Qp
