/- Proves what the store's New returns, and what it leaves in memory. Conditions: as each theorem names them. -/
import Derived.Test.YtlmljhnogmfcfaaGreatIp
namespace Go.Proofs.YtlmljhnogmfcfaaGreat.Ep
open Go.RowKit Ap Mi Nw Ea Eb Ec Ed Ee El Ia Ib Ic Ik Ie If Ig

theorem only_b {v v' : World} (h : Below v.heap.size v v') : Only (fun _ => False) v v' := Only.of_below h (Nat.le_refl _) _
theorem rel_nil {b e : Int} (h : bud b e) : Rel (fun _ => True) 0 0 ⟨b, e, []⟩ [] [] ⟨[], [], []⟩ (List.replicate 8 none) [] ⟨b, e, 0, 0⟩ := by
 have hn : ∀ (k' : Ta.Key) (x : Nat), some (k', x) ∉ List.replicate 8 (none : Tm.Cell Ta.Key) := fun k' x hm => by have := List.eq_of_mem_replicate hm; cases this
 refine ⟨⟨h, (fun _ hx => by cases hx), List.nodup_nil, by show (0 : Int) ≤ e; have := h.2.2.1; omega, by show ((used [] : Nat) : Int) ≤ b; have := h.1; simp [used]; omega⟩, rfl, List.nodup_nil, (fun _ hx => by cases hx), by show (0 : Int) ≤ e; have := h.2.2.1; omega, rfl, (fun n hn => by simp at hn), fun k' x => ⟨fun hm => absurd hm (hn k' x), fun hm => by cases hm.1⟩, ?_, fun x => ⟨fun hm => (by cases hm), fun ⟨n, hm, _⟩ => (by cases hm)⟩, ?_, by omega⟩
 ·rw [Tm.cnt_none]; rfl
 ·simp [used]
section
set_option maxRecDepth 100000 in
set_option maxHeartbeats 1000000 in
theorem new_no {b e : Int} (h : ¬ bud b e) (sd : Int) (w : World) : Calls Tryz.prog 9 #[.int .i64 b, .int .i64 e, .int .u64 sd] w (Eb.vPost w (.tuple #[.pointer none, .int .i64 2])) := by
 have HA := Lib.hid (Je.new_no (show ¬ Ja.bud b e from h) w)
 clear h
 go_enter Tryz.func9, Tryz.ntmps9
 go_wp2_with fail
 refine HA.out.mono ?_
 rintro _ v1 ⟨rfl, hb⟩
 have HB := Lib.hid hb
 clear hb
 go_wp2_with fail
 go_ret2
 exact ⟨rfl, HB.out⟩
set_option maxRecDepth 100000 in
set_option maxHeartbeats 1000000 in
theorem new_yes {b e : Int} (h : bud b e) (sd : Int) (hsd : 0 ≤ sd ∧ sd < 18446744073709551616) (w : World) : Calls Tryz.prog 9 #[.int .i64 b, .int .i64 e, .int .u64 sd] w (newPost w ⟨b, e, []⟩) := by
 have HA := Lib.hid (Je.new_yes (show Ja.bud b e from h) w)
 have HH := Lib.hid h
 have HS := Lib.hid hsd
 clear h hsd
 unfold newPost
 go_enter Tryz.func9, Tryz.ntmps9
 go_wp2_with fail
 refine HA.out.mono ?_
 rintro _ v1 ⟨gc, rfl, hac, hb1⟩
 have HAC := Lib.hid hac; have HB1 := Lib.hid hb1
 clear hac hb1 HA
 go_wp2_with fail
 refine (Na.new_any e v1).mono ?_
 rintro _ v2 (⟨m, hm, hm1, hm2, ga, rfl, har, hb2⟩ | ⟨hbad, _, _⟩)
 ·have HAR := Lib.hid har; have HB2 := Lib.hid hb2; have HM := Lib.hid hm
  clear har hb2 hm hm1 hm2
  go_wp2_with fail
  refine (Pc.new_any sd v2 HS.out).mono ?_
  rintro _ v3 ⟨gt, rfl, htb, hb3⟩
  have HTB := Lib.hid htb; have HB3 := Lib.hid hb3
  clear htb hb3
  go_wp2_with fail
  refine (Ue.new_any v3).mono ?_
  rintro _ v4 ⟨gr, rfl, hrc, hb4⟩
  have HRC := Lib.hid hrc; have HB4 := Lib.hid hb4
  clear hrc hb4
  go_wp2_with fail
  refine (Ye.new_any v4).mono ?_
  rintro _ v5 ⟨gh, rfl, hhp, hb5⟩
  have HHP := Lib.hid hhp; have HB5 := Lib.hid hb5
  clear hhp hb5
  go_wp2_with fail
  go_ret2
  have hb6 : Below v5.heap.size v5 (v5.alloc (.cells (stC ⟨ga, gt, gr, gh, gc, none, 0⟩ 0) 69)) := bnew _ _
  obtain ⟨v6, hv6⟩ : ∃ v6, v6 = v5.alloc (.cells (stC ⟨ga, gt, gr, gh, gc, none, 0⟩ 0) 69) := ⟨_, rfl⟩
  have hbk : Blk v6 v5.heap.size (stC ⟨ga, gt, gr, gh, gc, none, 0⟩ 0) 69 := by rw [hv6]; exact Blk.new _ _ _
  rw [← hv6] at hb6
  have z1 := HB1.out.size; have z2 := HB2.out.size; have z3 := HB3.out.size; have z4 := HB4.out.size; have z5 := HB5.out.size
  have c5 : Below v4.heap.size v4 v6 := HB5.out.trans (hb6.mono (by omega))
  have c4 : Below v3.heap.size v3 v6 := HB4.out.trans (c5.mono (by omega))
  have c3 : Below v2.heap.size v2 v6 := HB3.out.trans (c4.mono (by omega))
  have c2 : Below v1.heap.size v1 v6 := HB2.out.trans (c3.mono (by omega))
  have c1 : Below w.heap.size w v6 := HB1.out.trans (c2.mono (by omega))
  obtain ⟨p6, hp6⟩ : ∃ p6 : Nat → Nat, p6 = col (col (col (col (col (col (fun _ => 0) 6 w.heap.size) 2 v1.heap.size) 3 v2.heap.size) 4 v3.heap.size) 5 v4.heap.size) 1 v5.heap.size := ⟨_, rfl⟩
  have e1 : p6 v5.heap.size = 1 := by rw [hp6, col_ge (Nat.le_refl _)]
  have e5 : ∀ j, v4.heap.size ≤ j → j < v5.heap.size → p6 j = 5 := fun j h1 h2 => by rw [hp6, col_lt h2, col_ge h1]
  have e4 : ∀ j, v3.heap.size ≤ j → j < v4.heap.size → p6 j = 4 := fun j h1 h2 => by rw [hp6, col_lt (by omega), col_lt h2, col_ge h1]
  have e3 : ∀ j, v2.heap.size ≤ j → j < v3.heap.size → p6 j = 3 := fun j h1 h2 => by rw [hp6, col_lt (by omega), col_lt (by omega), col_lt h2, col_ge h1]
  have e2 : ∀ j, v1.heap.size ≤ j → j < v2.heap.size → p6 j = 2 := fun j h1 h2 => by rw [hp6, col_lt (by omega), col_lt (by omega), col_lt (by omega), col_lt h2, col_ge h1]
  have e6 : ∀ j, w.heap.size ≤ j → j < v1.heap.size → p6 j = 6 := fun j h1 h2 => by rw [hp6, col_lt (by omega), col_lt (by omega), col_lt (by omega), col_lt (by omega), col_lt h2, col_ge h1]
  have e0 : ∀ j, j < w.heap.size → p6 j = 0 := fun j h1 => by rw [hp6, col_lt (by omega), col_lt (by omega), col_lt (by omega), col_lt (by omega), col_lt (by omega), col_lt h1]
  have hL : Lo p6 v6 v5.heap.size ⟨ga, gt, gr, gh, gc, none, 0⟩ ⟨[], m, ⟨[], [], []⟩, sd, List.replicate 8 none, [], [], ⟨b, e, 0, 0⟩⟩ := by
   refine ⟨hbk, e1, ?_, ?_, ?_, ?_, ?_, Mine.nil _ _ _, (fun _ h => by cases h), (fun _ h => by cases h)⟩
   ·exact (HAR.out.tight.only (only_b c3) (fun _ _ hf => hf)).mono fun j _ hj => e2 j hj.1 hj.2
   ·exact (HTB.out.tight.only (only_b c4) (fun _ _ hf => hf)).mono fun j _ hj => e3 j hj.1 hj.2
   ·exact (HRC.out.tight.only (only_b c5) (fun _ _ hf => hf)).mono fun j _ hj => e4 j hj.1 hj.2
   ·exact (HHP.out.tight.only (only_b hb6) (fun _ _ hf => hf)).mono fun j _ hj => e5 j hj.1 hj.2
   ·exact (HAC.out.tight.only (only_b c2) (fun _ _ hf => hf)).mono fun j _ hj => e6 j hj.1 hj.2
  rw [show v5.alloc (.cells #[.pointer (some ⟨ga, 0, none⟩), .slice none 0 0, .pointer (some ⟨gt, 0, none⟩), .pointer (some ⟨gr, 0, none⟩), .pointer (some ⟨gh, 0, none⟩), .pointer (some ⟨gc, 0, none⟩)] 69) = v6 from hv6.symm]
  refine ⟨v5.heap.size, fun j => w.heap.size ≤ j, rfl, ⟨p6, [], _, _, ⟨hL, rel_nil HH.out, rfl, HM.out.symm⟩, fun j _ hp => ?_⟩, fun _ hj => hj, c1⟩
  rcases Nat.lt_or_ge j w.heap.size with h | h
  ·exact absurd (e0 j h) hp
  ·exact h
 ·exfalso
  have := HH.out.2.2.1; have := HH.out.2.2.2
  omega
end
end Go.Proofs.YtlmljhnogmfcfaaGreat.Ep
