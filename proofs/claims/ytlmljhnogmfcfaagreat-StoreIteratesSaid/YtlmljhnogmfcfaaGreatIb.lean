/- Proves that the store's copied returns an entry with rows of its own, and that its compare says which of two entries comes first. Conditions: as each theorem names them. -/
import Derived.Test.YtlmljhnogmfcfaaGreatRg
import Derived.Test.YtlmljhnogmfcfaaGreatEl
import Derived.Laws.CopyOwn
namespace Go.Proofs.YtlmljhnogmfcfaaGreat.Ib
open Go.RowKit Ap Mi Nw Rg Ea Eb Ec Ed Ee El

theorem made_one (z : Value) (n : Nat) : (madeCells #[z] n) = (List.replicate n z).toArray := by
 unfold madeCells
 refine Array.ext (by simp) (fun i h1 h2 => ?_)
 simp [Nat.mod_one]
theorem make_b (n : Nat) (w : World) (h : n ≤ 100000000) : (Instr.makeSlice 38 (.int .i64 (n : Int)) (.int .i64 (n : Int))).run Tryz.prog w = .ok (.slice (some ⟨w.heap.size, 0, none⟩) n n) (w.alloc (.cells (List.replicate n (.int .u8 0)).toArray 5)) := by
 have hi := elB.info
 rw [Option.map_eq_some_iff] at hi
 obtain ⟨i, hi1, hi2⟩ := hi
 simp only [Prod.mk.injEq] at hi2
 have hb := elB.small i hi1
 have hmul : i.bytes * n ≤ 1024 * 100000000 := Nat.mul_le_mul hb h
 have hmul' : (i.bytes : Int) * (n : Int) ≤ 281474976710656 := by
  have h0 : ((i.bytes * n : Nat) : Int) ≤ 281474976710656 := by omega
  rwa [Int.natCast_mul] at h0
 have hr := run_make (P := Tryz.prog) w 38 5 i (.int .u8 0) elB.sl hi1 hi2.1 .i64 .i64 (n : Int) (n : Int) (by omega) (Int.le_refl _) hmul' (by omega)
 rw [Int.toNat_natCast, hi2.2, Nat.mul_one] at hr
 rw [← made_one]
 exact hr
theorem make_s (n : Nat) (w : World) (h : n ≤ 100000000) : (Instr.makeSlice 39 (.int .i64 (n : Int)) (.int .i64 (n : Int))).run Tryz.prog w = .ok (.slice (some ⟨w.heap.size, 0, none⟩) n n) (w.alloc (.cells (List.replicate n (.string ⟨#[]⟩)).toArray 9)) := by
 have hi := elS.info
 rw [Option.map_eq_some_iff] at hi
 obtain ⟨i, hi1, hi2⟩ := hi
 simp only [Prod.mk.injEq] at hi2
 have hb := elS.small i hi1
 have hmul : i.bytes * n ≤ 1024 * 100000000 := Nat.mul_le_mul hb h
 have hmul' : (i.bytes : Int) * (n : Int) ≤ 281474976710656 := by
  have h0 : ((i.bytes * n : Nat) : Int) ≤ 281474976710656 := by omega
  rwa [Int.natCast_mul] at h0
 have hr := run_make (P := Tryz.prog) w 39 9 i (.string ⟨#[]⟩) elS.sl hi1 hi2.1 .i64 .i64 (n : Int) (n : Int) (by omega) (Int.le_refl _) hmul' (by omega)
 rw [Int.toNat_natCast, hi2.2, Nat.mul_one] at hr
 rw [← made_one]
 exact hr
def agPost (w : World) (e : TypeId) (n : Nat) (xs : List Value) : Ending → World → Prop := fun q w' => ∃ A c, q = .returned (.slice A n c) ∧ w'.ownsRow w.heap.size e 1 (.slice A n c) n xs ∧ Below w.heap.size w w'
theorem ag_end {w w' : World} {e : TypeId} {n : Nat} {z : Value} {xs : List Value} (hx : xs.length = n) (hn : n ≤ 1000000) (hb : Below w.heap.size w w') (hg : w'.heap[w.heap.size]? = some (.cells (splice (List.replicate n z) 0 xs).toArray e (0, 0))) :
  agPost w e n xs (.returned (.slice (some ⟨w.heap.size, 0, none⟩) n n)) w' := by
 have hs : splice (List.replicate n z) 0 xs = xs := by unfold splice; simp [hx]
 rw [hs] at hg
 refine ⟨_, _, rfl, ⟨by simpa using hx, Or.inr ⟨w.heap.size, n, xs.toArray, rfl, Nat.le_refl _, hg, Nat.le_refl _, by unfold maxLen; omega, by simp [hx], by simp; rw [← hx, List.take_length]⟩⟩, hb⟩
theorem rep_row (w : World) (n : Nat) (z : Value) (e : TypeId) : (w.alloc (.cells (Array.replicate n z) e)).heap[w.heap.size]? = some (.cells (List.replicate n z).toArray e (0, 0)) := by
 have h : (List.replicate n z).toArray = Array.replicate n z := by simp
 rw [h]; exact heap_alloc_new w _
theorem row_at {w w' : World} {A : Option Addr} {n c : Nat} {xs : List Value} (h : Rs w 1 A n c xs) (hb : Below w.heap.size w w') : 0 < xs.length → ∃ ad, A = some ad ∧ ∀ j v, xs[j]? = some v → w'.cell? (ad.add j) = some v := fun h0 => by
 obtain ⟨b, o, rfl, _, _⟩ := (h.below hb (Nat.le_refl _)).rd.at_ (k := 0) (List.getElem?_eq_getElem h0)
 refine ⟨_, rfl, fun j v hv => ?_⟩
 obtain ⟨b', o', e, _, c1⟩ := (h.below hb (Nat.le_refl _)).rd.at_ hv
 injection e with e; injection e with e1 e2
 subst e1; subst e2
 rw [Nw.add_lit]; exact c1
set_option maxRecDepth 100000 in
theorem again_b (A : Option Addr) (c : Nat) (l : List UInt8) (n : Nat) (w : World) (hl : l.length = n) (h : Rs w 1 A n c (byV l)) (hn : n ≤ 1000000) :
  Calls Tryz.prog 87 #[.slice A n c] w (agPost w 5 n (byV l)) := by
 have MK := fun W => make_b n W (by omega)
 have HP := Lib.hid (row_at h (bnew w (.cells (Array.replicate n (.int .u8 0)) 5)))
 have hx : (byV l).length = n := by rw [byV_len, hl]
 obtain ⟨xs, hxs⟩ : ∃ xs, xs = byV l := ⟨_, rfl⟩
 have H1 : Hid (∀ u ∈ xs, u.oneCell' = true) := by rw [hxs]; exact byV_one l
 rw [← hxs] at hx HP ⊢
 have HL := Lib.hid hx
 clear h hx hxs hl
 go_enter Tryz.func87, Tryz.ntmps87
 go_wp2_with (refine wpList_copy_splice (o := ⟨some 9, _, _, _, _, _⟩) rfl (.tmp 7) (.tmp 8) _ _ rfl 5 Tryz.underlying38 (by kernel_rfl) _ _ _ _ _ _ rfl rfl w.heap.size 0 _ 5 (rep_row w n _ _) xs (by rw [HL.out]; exact (Nat.min_self n).symm) (fun h0 => ⟨rfl, HP.out h0⟩) (by rw [HL.out]; simp) H1.out w.heap.size w (bnew _ _) (Nat.le_refl _) ?_)
 intro w' hw hb
 have HW := Lib.hid hw.out
 have HB := Lib.hid hb
 clear hw hb
 go_wp2_with fail
 go_ret
 exact ag_end HL.out hn HB.out HW.out
set_option maxRecDepth 100000 in
theorem again_s (A : Option Addr) (c : Nat) (l : List ByteArray) (n : Nat) (w : World) (hl : l.length = n) (h : Rs w 1 A n c (strs l)) (hn : n ≤ 1000000) :
  Calls Tryz.prog 88 #[.slice A n c] w (agPost w 9 n (strs l)) := by
 have MK := fun W => make_s n W (by omega)
 have HP := Lib.hid (row_at h (bnew w (.cells (Array.replicate n (.string ⟨#[]⟩)) 9)))
 have hx : (strs l).length = n := by rw [strs_len, hl]
 obtain ⟨xs, hxs⟩ : ∃ xs, xs = strs l := ⟨_, rfl⟩
 have H1 : Hid (∀ u ∈ xs, u.oneCell' = true) := by rw [hxs]; exact strs_one l
 rw [← hxs] at hx HP ⊢
 have HL := Lib.hid hx
 clear h hx hxs hl
 go_enter Tryz.func88, Tryz.ntmps88
 go_wp2_with (refine wpList_copy_splice (o := ⟨some 9, _, _, _, _, _⟩) rfl (.tmp 7) (.tmp 8) _ _ rfl 9 Tryz.underlying39 (by kernel_rfl) _ _ _ _ _ _ rfl rfl w.heap.size 0 _ 9 (rep_row w n _ _) xs (by rw [HL.out]; exact (Nat.min_self n).symm) (fun h0 => ⟨rfl, HP.out h0⟩) (by rw [HL.out]; simp) H1.out w.heap.size w (bnew _ _) (Nat.le_refl _) ?_)
 intro w' hw hb
 have HW := Lib.hid hw.out
 have HB := Lib.hid hb
 clear hw hb
 go_wp2_with fail
 go_ret
 exact ag_end HL.out hn HB.out HW.out
set_option maxRecDepth 100000 in
set_option maxHeartbeats 1000000 in
theorem copied_any {G : Nat → Prop} (x : Em) (w : World) (hx : ∀ v, Below w.heap.size w v → RE G v x) :
  Calls Tryz.prog 61 #[emV x] w (copyPost w x.e) := by
 have h0 := hx w (Below.refl _ _)
 have fv := h0.f.v; have ft := h0.f.t
 have HF := Lib.hid h0.f
 have HX := Lib.hid hx
 clear hx h0
 unfold copyPost
 obtain ⟨C, hC⟩ : ∃ C, C = w.heap.size := ⟨_, rfl⟩
 obtain ⟨v1, hv1⟩ : ∃ v1, v1 = (w.alloc (.cells (emA x) 42)).alloc (.cells zA 42) := ⟨_, rfl⟩
 have HK1 : Hid (Blk v1 C (emA x) 42) := by show Blk _ _ _ _; rw [hv1, hC]; exact (Blk.new w _ _).below (bnew _ _) (by simp)
 have HR1 : Hid (Blk v1 (C + 1) zA 42) := by show Blk _ _ _ _; rw [hv1, hC]; have := Blk.new (w.alloc (.cells (emA x) 42)) zA 42; simpa using this
 have HB1 : Hid (Below w.heap.size w v1) := by show Below _ _ _; rw [hv1]; exact (bnew _ _).alloc (by simp) _
 unfold emV
 unfold emA zA at hv1
 have HCE := Lib.hid hC
 go_enter Tryz.func61, Tryz.ntmps61
 go_wp2_with fail
 rw [← hv1, ← hC]
 clear hv1 hC
 have HU := Lib.hid HB1.out.drew
 have HKd := Lib.hid (show Blk v1.drew C _ _ from HK1.out)
 have HRd := Lib.hid (show Blk v1.drew (C + 1) _ _ from HR1.out)
 refine wp_region_noPanic ?_
 refine wp_region_G 7 (fun v => v.cell? ⟨C, 1, none⟩ = some (.slice x.A x.e.v.length x.a) ∧ v.cell? ⟨C, 2, none⟩ = some (.slice x.B x.e.t.length x.b)) (by kernel_rfl) ?_
 obtain ⟨u1, hu1⟩ : ∃ u1, u1 = v1.drew := ⟨_, rfl⟩
 rw [← hu1]
 have HU1 : Hid (Below w.heap.size w u1) := by rw [hu1]; exact HU.out
 have HKU : Hid (Blk u1 C (emA x) 42) := by rw [hu1]; exact HKd.out
 have HRU : Hid (Blk u1 (C + 1) zA 42) := by rw [hu1]; exact HRd.out
 clear hu1 HU HKd HRd HK1 HR1
 refine Rg.tg 0 (some 3) (v := ?_) rfl (by kernel_rfl) (fun _ _ _ h => h) (by rfl) (⟨HKU.out.cell 1, HKU.out.cell 2⟩) ?_ ?_
 rotate_left
 ·intro w hSw; go_simp; first | done | with_reducible rfl
 try simp only [Ap.sc]
 refine Rg.tg 1 (some 4) (v := ?_) rfl (by kernel_rfl) (fun _ _ _ h => h) (by rfl) (⟨HKU.out.cell 1, HKU.out.cell 2⟩) ?_ ?_
 rotate_left
 ·intro w hSw; go_simp; first | done | with_reducible rfl
 try simp only [Ap.sc]
 refine Rg.tg 3 (some 6) (v := ?_) rfl (by kernel_rfl) (fun _ _ _ h => h) (by rfl) (⟨HKU.out.cell 1, HKU.out.cell 2⟩) ?_ ?_
 rotate_left
 ·intro w hSw; go_simp; first | done | with_reducible rfl
 try simp only [Ap.sc]
 refine Rg.tg 4 (some 7) (v := ?_) rfl (by kernel_rfl) (fun _ _ _ h => h) (by rfl) (⟨HKU.out.cell 1, HKU.out.cell 2⟩) ?_ ?_
 rotate_left
 ·intro w hSw; go_simp; first | done | with_reducible rfl
 try simp only [Ap.sc]
 refine wpAnyG_ready (rs := [2]) (by kernel_rfl) (by simp) ?_
 refine AllReadyG.cons (o := ⟨some 5, _, _, _, _, _⟩) rfl (fun K hK => ?_) AllReadyG.nil
 go_simp
 refine (again_b x.A x.a x.e.v x.e.v.length u1 rfl (HX.out u1 HU1.out).v fv).mono ?_
 rintro q v2 ⟨A2, k2, rfl, o2, b2⟩
 have HO2 := Lib.hid o2
 have HB2 : Hid (Below w.heap.size w v2) := HU1.out.trans (b2.mono HU1.out.size)
 have HK2 := Lib.hid (HKU.out.below b2 HKU.out.lt)
 have HR2 := Lib.hid (HRU.out.below b2 HRU.out.lt)
 have z2 := b2.size
 have b2h := Lib.hid b2
 clear o2 b2
 refine hK.out _ _ (fun _ => ⟨HK2.out.cell 1, HK2.out.cell 2⟩) ?_
 clear hK K
 try simp only [Ap.sc]
 refine Rg.tg 6 (some 9) (v := ?_) rfl (by kernel_rfl) (fun _ _ _ h => h) (by rfl) (⟨HK2.out.cell 1, HK2.out.cell 2⟩) ?_ ?_
 rotate_left
 ·intro w hSw; go_simp; first | done | with_reducible rfl
 try simp only [Ap.sc]
 refine wpAnyG_ready (rs := [5]) (by kernel_rfl) (by simp) ?_
 refine AllReadyG.cons (o := ⟨some 8, _, _, _, _, _⟩) rfl (fun K hK => ?_) AllReadyG.nil
 go_simp
 refine (again_s x.B x.b x.e.t x.e.t.length v2 rfl (HX.out v2 HB2.out).t (by omega)).mono ?_
 rintro q v3 ⟨B3, k3, rfl, o3, b3⟩
 have HO3 := Lib.hid o3
 have HB3 : Hid (Below w.heap.size w v3) := HB2.out.trans (b3.mono HB2.out.size)
 have HK3 := Lib.hid (HK2.out.below b3 HK2.out.lt)
 have HR3 := Lib.hid (HR2.out.below b3 HR2.out.lt)
 have HO2 := Lib.hid (own_keepB HO2.out b3)
 have z3 := b3.size
 clear o3 b3
 have HKZ := HK3.out
 unfold emA at HKZ
 obtain ⟨y0, y1, y2, y3, y4, y5, yf⟩ := six HKZ
 have yf1 := yf 1; have yf2 := yf 2
 clear yf HKZ
 refine hK.out _ _ (fun _ => ⟨HK3.out.cell 1, HK3.out.cell 2⟩) ?_
 clear hK K
 try simp only [Ap.sc]
 refine wpAnyG_ready (rs := [7]) (by kernel_rfl) (by simp) ?_
 refine AllReadyG.cons (o := ⟨none, _, _, _, _, _⟩) rfl (fun K hK => ?_) AllReadyG.nil
 go_simp
 refine hK.out _ _ (fun h => absurd h (by omega)) ?_
 clear hK K
 try simp only [Ap.sc]
 refine wpAnyG_ready (rs := [8]) (by kernel_rfl) (by simp) ?_
 refine AllReadyG.cons (o := ⟨some 10, _, _, _, _, _⟩) rfl (fun K hK => ?_) AllReadyG.nil
 go_simp
 refine hK.out _ _ (fun h => absurd h (by omega)) ?_
 clear hK K
 try simp only [Ap.sc]
 refine wpAnyG_ready (rs := [9]) (by kernel_rfl) (by simp) ?_
 refine AllReadyG.cons (o := ⟨none, _, _, _, _, _⟩) rfl (fun K hK => ?_) AllReadyG.nil
 go_simp
 refine hK.out _ _ (fun h => absurd h (by omega)) ?_
 clear hK K
 try simp only [Ap.sc]
 refine wpAnyG_done (by kernel_rfl) ?_ _
 refine NoPanic.normal ?_
 obtain ⟨v4, hv4⟩ : ∃ v4, v4 = (v3.setCell ⟨C, 1, none⟩ (.slice A2 x.e.v.length k2)).setCell ⟨C, 2, none⟩ (.slice B3 x.e.t.length k3) := ⟨_, rfl⟩
 have HK4 : Hid (Blk v4 C #[.string x.e.k, .slice A2 x.e.v.length k2, .slice B3 x.e.t.length k3, .int .u64 x.e.d, .int .u64 x.e.n, .int .u64 x.e.s] 42) := by show Blk _ _ _ _; rw [hv4]; exact (HK3.out.set 1 _).set 2 _
 have O4 : Hid (Only (fun j => j = C) v3 v4) := by show Only _ _ _; rw [hv4]; exact ((Only.refl (fun j => j = C) v3).put (ad := ⟨C, 1, none⟩) rfl _).put (ad := ⟨C, 2, none⟩) rfl _
 have HR4 := Lib.hid (HR3.out.only O4.out (by omega))
 rw [← hv4]
 clear hv4 y0 y1 y2 y3 y4 y5 yf1 yf2
 obtain ⟨y0, y1, y2, y3, y4, y5, _⟩ := six HK4.out
 have HRZ := HR4.out
 unfold zA at HRZ
 obtain ⟨r0, r1, r2, r3, r4, r5, rf⟩ := six HRZ
 have rf0 := rf 0; have rf1 := rf 1; have rf2 := rf 2; have rf3 := rf 3; have rf4 := rf 4; have rf5 := rf 5
 have ly := HK4.out.lt
 have lr := HRZ.lt
 clear rf HRZ
 go_wp2_with fail
 refine bodyPost_ret (v := emV ⟨x.e, A2, k2, B3, k3⟩) (by simp [results, Tryz.results61, go_sem, emV, r0, r1, r2, r3, r4, r5]) rfl ⟨⟨x.e, A2, k2, B3, k3⟩, rfl, rfl, ?_, ?_⟩
 ·have O5 : Only (fun j => j = C ∨ j = C + 1) v3 (put6 v4 (C + 1) (.string x.e.k) (.slice A2 x.e.v.length k2) (.slice B3 x.e.t.length k3) (.int .u64 x.e.d) (.int .u64 x.e.n) (.int .u64 x.e.s)) := (O4.out.mono (fun _ _ h => Or.inl h)).trans ((put6_only v4 (C + 1) _ _ _ _ _ _).mono (fun _ _ h => Or.inl (Or.inr h)))
  have hz := HRU.out.lt; have hCe := HCE.out
  have hA := own_rs HO2.out; have hB := own_rs HO3.out
  refine ⟨HF.out, own_base (own_keep HO2.out O5 (fun j ej hj => ?_)) (by omega), own_base (own_keep HO3.out O5 (fun j ej hj => ?_)) (by omega)⟩
  ·cases hh : A2 with
   | none => rw [hh] at ej; cases ej
   | some a => have := hA.2 a hh; rw [hh] at ej; cases ej; omega
  ·cases hh : B3 with
   | none => rw [hh] at ej; cases ej
   | some a => have := hB.2 a hh; rw [hh] at ej; cases ej; omega
 ·have hCe := HCE.out
  exact HB3.out.trans (((O4.out.mono (fun _ _ h => (Or.inl h : _ ∨ _ = C + 1))).trans ((put6_only v4 (C + 1) _ _ _ _ _ _).mono (fun _ _ h => Or.inl (Or.inr h)))).below (fun j hj => by omega) HB3.out.size)
end Go.Proofs.YtlmljhnogmfcfaaGreat.Ib
