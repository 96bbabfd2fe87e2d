/- Proves that TableGrows returns true at every argument. Conditions: as the row gives them. -/
import Derived.Laws.IdiomStrings
import Derived.Test.YthabnffmlgppdaaPq
namespace Go.Proofs.Ythabnffmlgppdaa.Ps
open Go.RowKit Ap Mi Nw Rg Hm Tm Tn Ta Tb Pm Pa Pb Pc Pd Pe Pf Pg Ph Pn Pj Pp Pq
open Tf (okK Puts Gets rput_any tabPost)
open Th (Dels rdel_any)
open To (putT delT put_good del_good)
open Td (rnew_any len_none)

/-- The key of a number. -/
def kOf (i : Nat) : Key := [UInt8.ofNat (i % 256), UInt8.ofNat (i / 256 % 256)]
theorem kOf_inj {i j : Nat} (hi : i < 65536) (hj : j < 65536) (h : kOf i = kOf j) : i = j := by
  unfold kOf at h
  simp only [List.cons.injEq, and_true] at h
  have h1 := congrArg UInt8.toNat h.1
  have h2 := congrArg UInt8.toNat h.2
  simp only [UInt8.toNat_ofNat', Nat.reducePow] at h1 h2
  omega
theorem kOf_len (i : Nat) : (kOf i).length = 2 := rfl
theorem conv_two (w : World) (k : Nat) (hk : k < 65536) : (convert 39 9 (.slice (some ⟨w.heap.size, 0, none⟩) 2 2)).run Try.prog (w.alloc (.cells #[.int .u8 ((k : Int) % 256), .int .u8 ((k : Int) / 256)] 5)) = .ok (.string ⟨(kOf k).toArray⟩) (w.alloc (.cells #[.int .u8 ((k : Int) % 256), .int .u8 ((k : Int) / 256)] 5)) := by
  have h := Blk.new w #[.int .u8 ((k : Int) % 256), .int .u8 ((k : Int) / 256)] 5
  refine run_convert_bytes_back (P := Try.prog) _ 39 9 5 ⟨w.heap.size, 0, none⟩ 2 (kOf k) Try.underlying39 Try.underlying5 Try.underlying9 fun j hj => ?_
  rw [kOf_len] at hj
  rw [Nw.add_lit, Nat.zero_add, h.cell j]
  have : j = 0 ∨ j = 1 := by omega
  rcases this with rfl | rfl
  · show some (Value.int .u8 ((k : Int) % 256)) = some (.int .u8 ((UInt8.ofNat (k % 256)).toNat : Int))
    rw [UInt8.toNat_ofNat']; congr 2; omega
  · show some (Value.int .u8 ((k : Int) / 256)) = some (.int .u8 ((UInt8.ofNat (k / 256 % 256)).toNat : Int))
    rw [UInt8.toNat_ofNat']; congr 2; omega
theorem dels_le {seed : Int} {c c' : List (Cell Key)} {k : Key} {m e : Int} (g : To.Good (hom seed) c) (h : Dels seed c k c' m e) : cnt c' ≤ cnt c ∧ 0 < c'.length := by
  rcases h with ⟨rfl, _⟩ | ⟨_, ⟨i, x, hi, _, rfl⟩, _⟩
  · have := g.lo; exact ⟨Nat.le_refl _, by omega⟩
  · have h1 := (del_good g hi).2.2.1; have h2 := (del_good g hi).1.lo; exact ⟨by omega, by omega⟩
theorem kOf_ok (i : Nat) : okK (kOf i) = true := rfl
set_option maxRecDepth 100000 in
set_option maxHeartbeats 8000000 in
theorem grows_walk (seed n st : Int) (W : World) (hs : U64 seed) : Calls Try.prog 4 #[.int .u64 seed, .int .i64 n, .int .i64 st] W (boolTo true W) := by
  have HSD := Lib.hid hs
  clear hs
  obtain ⟨N, hN⟩ : ∃ N, N = W.heap.size := ⟨_, rfl⟩
  have HN := Lib.hid hN
  unfold boolTo
  rw [← hN]
  clear hN
  by_cases hin : 0 ≤ n ∧ n ≤ 300 ∧ 1 ≤ st ∧ st ≤ 1000
  case neg =>
    have HK := Lib.hid (known_any W)
    unfold boolTo at HK
    rw [← HN.out] at HK
    by_cases a1 : n < 0
    · clear hin
      go_enter Try.func4, Try.ntmps4
      go_wp2_with fail
      refine HK.out.mono ?_
      rintro e w1 ⟨rfl, hb⟩
      go_wp2_with fail
      go_ret
      exact ⟨rfl, hb⟩
    · by_cases a2 : 300 < n
      · clear hin
        go_enter Try.func4, Try.ntmps4
        go_wp2_with fail
        refine HK.out.mono ?_
        rintro e w1 ⟨rfl, hb⟩
        go_wp2_with fail
        go_ret
        exact ⟨rfl, hb⟩
      · by_cases a3 : st < 1
        · clear hin
          go_enter Try.func4, Try.ntmps4
          go_wp2_with fail
          refine HK.out.mono ?_
          rintro e w1 ⟨rfl, hb⟩
          go_wp2_with fail
          go_ret
          exact ⟨rfl, hb⟩
        · have a4 : 1000 < st := by omega
          clear hin
          go_enter Try.func4, Try.ntmps4
          go_wp2_with fail
          refine HK.out.mono ?_
          rintro e w1 ⟨rfl, hb⟩
          go_wp2_with fail
          go_ret
          exact ⟨rfl, hb⟩
  case pos =>
    obtain ⟨hn0, hn3, hst1, hst2⟩ := hin
    obtain ⟨L, rfl⟩ : ∃ L : Nat, n = (L : Int) := ⟨n.toNat, by omega⟩
    have hL : L ≤ 300 := by omega
    have HNW := Lib.hid (new_any seed W HSD.out)
    unfold Pc.newPost at HNW
    rw [← HN.out] at HNW
    go_enter Try.func4, Try.ntmps4
    go_wp2_with fail
    refine HNW.out.mono ?_
    rintro e w1 ⟨g, rfl, ha, hb⟩
    have HA := Lib.hid ha.tight; have HB1 := Lib.hid hb
    have hz1 : N ≤ w1.heap.size := by rw [HN.out]; exact hb.size
    have HRN := Lib.hid (rnew_any seed w1)
    unfold Td.newPost at HRN
    clear ha hb HNW
    go_wp2_with fail
    refine HRN.out.mono ?_
    rintro e w2 ⟨X0, p0, Y0, q1, rfl, ho, hb⟩
    obtain ⟨b8, hb8⟩ : ∃ b8, b8 = w2.heap.size := ⟨_, rfl⟩
    obtain ⟨w3, hw3⟩ : ∃ w3, w3 = w2.alloc (.cells #[.int .u64 seed, .slice X0 8 p0, .slice Y0 8 q1] 31) := ⟨_, rfl⟩
    have b3 : Below w2.heap.size w2 w3 := by rw [hw3]; exact bnew w2 _
    have P8 : Hid (Blk w3 b8 #[.int .u64 seed, .slice X0 (List.replicate 8 (none : Cell Key)).length p0, .slice Y0 (List.replicate 8 (none : Cell Key)).length q1] 31) := by show Blk _ _ _ _; rw [hw3, hb8]; exact Blk.new _ _ _
    have hz2 := hb.size
    have b13 : Below w1.heap.size w1 w3 := hb.trans (b3.mono hz2)
    have HA3 := Lib.hid (HA.out.below b13 (Nat.le_refl _))
    have HB3 := Lib.hid (HB1.out.trans (b13.mono hz1))
    have hz3 : w1.heap.size ≤ w3.heap.size := b13.size
    have l8 : w1.heap.size ≤ b8 := by omega
    have l8' : b8 < w3.heap.size := P8.out.lt
    have HTB := Lib.hid (ho.tb.below b3 (Nat.le_refl _))
    have HBO : Hid (Both N w3 (fun j => N ≤ j ∧ j < w1.heap.size) g seed (List.replicate 8 none) X0 p0 Y0 q1) :=
      ⟨HA3.out, HTB.out, fun j hj => ⟨hj.1, by omega⟩, (fun a ha => by have := ho.ks.base ha; exact ⟨fun hf => by have := hf.2; omega, by omega⟩), (fun a ha => by have := ho.ns.base ha; exact ⟨fun hf => by have := hf.2; omega, by omega⟩)⟩
    have NX0 : Hid (∀ a, X0 = some a → a.block ≠ b8) := fun a ha => by have := (ho.ks.base ha).2.1; omega
    have NY0 : Hid (∀ a, Y0 = some a → a.block ≠ b8) := fun a ha => by have := (ho.ns.base ha).2.1; omega
    clear b3 b13 hb ho HRN
    go_upto_region 6 with (fail)
    rw [← hw3, ← hb8]
    clear hw3 hb8
    go_wp2_with fail
    have HM0 : ∀ (kk : Key) (x : Nat), some (kk, x) ∈ (List.replicate 8 none : List (Cell Key)) → ∃ j, j < 0 ∧ kk = kOf j := fun kk x h => by have := List.eq_of_mem_replicate h; cases this
    go_loopw [9] (fun i wr => ∃ (k : Nat) (F : Nat → Prop) (c : List (Cell Key)) (X Y : Option Addr) (p q : Nat), k ≤ L ∧ i = .int .i64 (k : Int) ∧ Hid (cnt c = k) ∧ Hid (∀ kk x, some (kk, x) ∈ c → ∃ j, j < k ∧ kk = kOf j) ∧ Both N wr F g seed c X p Y q ∧ Blk wr b8 #[.int .u64 seed, .slice X c.length p, .slice Y c.length q] 31 ∧ ¬ F b8 ∧ (∀ a, X = some a → a.block ≠ b8) ∧ (∀ a, Y = some a → a.block ≠ b8) ∧ Below N W wr ∧ N ≤ wr.heap.size) (fun i _ => L - (intOf i).toNat)
    case atStart => exact ⟨0, _, _, X0, Y0, p0, q1, Nat.zero_le _, rfl, Lib.hid (cnt_none 8), Lib.hid HM0, HBO.out, P8.out, (fun hf => by have := hf.2; omega), NX0.out, NY0.out, HB3.out, by omega⟩
    case round =>
      obtain ⟨k, F, c, X, Y, p, q, hk, rfl, hcn, hmem, hbo, h8, hF8, hX8, hY8, hbl, hNr⟩ := hrel
      have BO := Lib.hid hbo; have K8 := Lib.hid h8; have KF := Lib.hid hF8; have KX := Lib.hid hX8; have KY := Lib.hid hY8; have BL := Lib.hid hbl
      have hfew := hbo.t.good.few
      have hcl : c.length ≤ 10000 := by have := hcn.out; omega
      clear hbo h8 hF8 hX8 hY8 hbl hfew
      by_cases hlt : k < L
      · have j1 : (k : Int) < (L : Int) := by omega
        obtain ⟨ky, hky⟩ : ∃ ky, ky = kOf k := ⟨_, rfl⟩
        have hkl : ky.length = 2 := by rw [hky]; rfl
        have hno : ∀ y, some (ky, y) ∉ c := fun y hm => by
          obtain ⟨j, hj, e⟩ := hmem.out ky y hm
          have := kOf_inj (by omega) (by omega) (hky.symm.trans e)
          omega
        obtain ⟨u1, u2, u3, u4⟩ := put_good BO.out.t.good hno k
        have HP : Hid (Puts seed c ky (k : Int) (putT (hom seed) c ky k) 0) := Or.inr (Or.inr ⟨by rw [hky]; rfl, ⟨k, rfl, rfl⟩, hno, rfl⟩)
        have hc1l : 0 < (putT (hom seed) c ky k).length := by have := u1.lo; omega
        have HC1 : Hid ((cnt (putT (hom seed) c ky k) : Int) = (k : Int) + 1) := by show _ = _; rw [u3]; have := hcn.out; omega
        have HM1 : Hid (∀ kk x, some (kk, x) ∈ putT (hom seed) c ky k → ∃ j, j < k + 1 ∧ kk = kOf j) := fun kk x hm => by
          rcases (u4 _).1 hm with e | hm
          · simp only [Prod.mk.injEq] at e; exact ⟨k, by omega, by rw [e.1, hky]⟩
          · obtain ⟨j, hj, e⟩ := hmem.out kk x hm; exact ⟨j, by omega, e⟩
        obtain ⟨c1, hc1⟩ : ∃ c1, c1 = putT (hom seed) c ky k := ⟨_, rfl⟩
        rw [← hc1] at HP hc1l HC1 HM1
        have hcv : ∀ w : World, (convert 39 9 (.slice (some ⟨w.heap.size, 0, none⟩) 2 2)).run Try.prog (w.alloc (.cells #[.int .u8 ((k : Int) % 256), .int .u8 ((k : Int) / 256)] 5)) = .ok (.string ⟨ky.toArray⟩) (w.alloc (.cells #[.int .u8 ((k : Int) % 256), .int .u8 ((k : Int) / 256)] 5)) := fun w => by rw [hky]; exact conv_two w k (by omega)
        have hw1 : IntKind.i64.wrap ((k : Int) + 1) = (k : Int) + 1 := IntWalk.i64_in _ (by omega)
        clear u1 u2 u3 u4 hc1 hno hky hcn
        obtain ⟨v0, hv0⟩ : ∃ v0, v0 = wr.alloc (.cells #[.int .u8 ((k : Int) % 256), .int .u8 ((k : Int) / 256)] 5) := ⟨_, rfl⟩
        have b0 : Below wr.heap.size wr v0 := by rw [hv0]; exact bnew _ _
        have J8 := Lib.hid (K8.out.below b0 K8.out.lt)
        have BO0 := Lib.hid (BO.out.below b0 (Nat.le_refl _))
        have BL0 := Lib.hid (BL.out.trans (b0.mono hNr))
        have lz0 : wr.heap.size < v0.heap.size := by rw [hv0]; simp
        have l8r : b8 < wr.heap.size := K8.out.lt
        have HR := Lib.hid (rput_any BO0.out.s BO.out.t.good BO.out.t.pl.kys HSD.out ky (by omega) (by omega) HP.out)
        unfold tabPost at HR
        clear b0
        go_upto_region 10 with (fail)
        rw [← hv0]
        clear hv0 hcv
        obtain ⟨x0, x1, x2, _⟩ := J8.out.three
        go_wp2_with fail
        refine HR.out.mono ?_
        rintro r v1 ⟨X1, p1, Y1, q1', rfl, hs, hb, fx, fy⟩
        have J81 := Lib.hid (J8.out.below hb J8.out.lt)
        have BT1 := Lib.hid (BO0.out.t.below hb (Nat.le_refl _))
        have BL1 := Lib.hid (BL0.out.trans (hb.mono (by omega)))
        have lz1 : v0.heap.size ≤ v1.heap.size := hb.size
        have SS := Lib.hid hs
        have LX : Hid (∀ a, X1 = some a → a.block < v1.heap.size) := (tb_lt hs hc1l).1
        have LY : Hid (∀ a, Y1 = some a → a.block < v1.heap.size) := (tb_lt hs hc1l).2
        have FX : Hid (∀ a, X1 = some a → X = some a ∨ wr.heap.size ≤ a.block) := fun a ha => (fx a ha).imp id (fun h => by omega)
        have FY : Hid (∀ a, Y1 = some a → Y = some a ∨ wr.heap.size ≤ a.block) := fun a ha => (fy a ha).imp id (fun h => by omega)
        have NX1 : Hid (∀ a, X1 = some a → a.block ≠ b8) := fun a ha => by rcases FX.out a ha with h | h; exact KX.out a h; omega
        have NY1 : Hid (∀ a, Y1 = some a → a.block ≠ b8) := fun a ha => by rcases FY.out a ha with h | h; exact KY.out a h; omega
        have NFX : Hid (∀ a, X1 = some a → ¬ F a.block) := fun a ha hf => by rcases FX.out a ha with h | h; exact (BO.out.xF a h).1 hf; (have := (BO.out.fl _ hf).2; omega)
        have NFY : Hid (∀ a, Y1 = some a → ¬ F a.block) := fun a ha hf => by rcases FY.out a ha with h | h; exact (BO.out.yF a h).1 hf; (have := (BO.out.fl _ hf).2; omega)
        obtain ⟨v2, hv2⟩ : ∃ v2, v2 = v1.alloc (.cells #[.int .u64 seed, .slice X1 c1.length p1, .slice Y1 c1.length q1'] 31) := ⟨_, rfl⟩
        obtain ⟨b11, hb11⟩ : ∃ b11, b11 = v1.heap.size := ⟨_, rfl⟩
        have b2 : Below v1.heap.size v1 v2 := by rw [hv2]; exact bnew _ _
        have P11 : Hid (Blk v2 b11 #[.int .u64 seed, .slice X1 c1.length p1, .slice Y1 c1.length q1'] 31) := by show Blk _ _ _ _; rw [hv2, hb11]; exact Blk.new _ _ _
        have J82 := Lib.hid (J81.out.below b2 J81.out.lt)
        have BT2 := Lib.hid (BT1.out.below b2 (Nat.le_refl _))
        have SS2 := Lib.hid (SS.out.below b2 (Nat.le_refl _))
        have BL2 := Lib.hid (BL1.out.trans (b2.mono (by omega)))
        have lz2 : v1.heap.size ≤ v2.heap.size := b2.size
        have l11 : b11 < v2.heap.size := P11.out.lt
        have l82 : b8 < v2.heap.size := J82.out.lt
        clear hs hb fx fy b2 x0 x1 x2 HR
        go_upto_region 11 with (fail)
        rw [← hv2, ← hb11]
        clear hv2 hb11
        obtain ⟨y0, y1, y2, _⟩ := P11.out.three
        obtain ⟨x0, x1, x2, xf0, xf1, xf2⟩ := J82.out.three
        go_upto_region 12 with (fail)
        obtain ⟨v3, hv3⟩ : ∃ v3, v3 = ((v2.setCell ⟨b8, 0, none⟩ (.int .u64 seed)).setCell ⟨b8, 1, none⟩ (.slice X1 c1.length p1)).setCell ⟨b8, 2, none⟩ (.slice Y1 c1.length q1') := ⟨_, rfl⟩
        have O3 : Only (fun j => j = b8) v2 v3 := by rw [hv3]; exact three_only _ _ _
        have K83 : Hid (Blk v3 b8 #[.int .u64 seed, .slice X1 c1.length p1, .slice Y1 c1.length q1'] 31) := by
          have h1 := ((J82.out.set 0 (.int .u64 seed)).set 1 (.slice X1 c1.length p1)).set 2 (.slice Y1 c1.length q1')
          show Blk _ _ _ _
          rw [hv3]; exact h1
        have BT3 := Lib.hid (BT2.out.only O3 (fun j hf e => KF.out (by rw [← e]; exact hf)))
        have SS3 := Lib.hid (tb_only SS2.out O3 NX1.out NY1.out)
        have BL3 : Hid (Below N W v3) := BL2.out.trans (O3.below (fun j e => by omega) (by omega))
        have lz3 : v2.heap.size ≤ v3.heap.size := O3.size
        rw [← hv3]
        clear hv3 O3 x0 x1 x2 xf0 xf1 xf2 y0 y1 y2
        obtain ⟨x0, x1, x2, _⟩ := K83.out.three
        have D8 := Lib.hid (show Blk v3.drew b8 _ _ from K83.out)
        have DT := Lib.hid (BT3.out.below ((Below.refl v3.heap.size v3).drew) (Nat.le_refl _))
        have DS := Lib.hid (SS3.out.below ((Below.refl v3.heap.size v3).drew) (Nat.le_refl _))
        have DL := Lib.hid BL3.out.drew
        have hzd : v3.heap.size ≤ v3.drew.heap.size := Nat.le_refl _
        refine wp_region_noPanic ?_
        refine wp_region_held_drew (S := fun v => v.cell? ⟨b8, 0, none⟩ = some (.int .u64 seed) ∧ v.cell? ⟨b8, 1, none⟩ = some (.slice X1 c1.length p1) ∧ v.cell? ⟨b8, 2, none⟩ = some (.slice Y1 c1.length q1')) (by kernel_rfl) (⟨x0, x1, x2⟩) (fun hHeld => ?_)
        generalize v3.drew = u at D8 DT DS DL hzd hHeld ⊢
        refine wpAnyH_take (i := 0) (oi := ⟨some 60, _, _, _, _, _⟩) (v := ?_) rfl (by kernel_rfl) (by kernel_rfl) (by kernel_rfl) (fun _ _ _ h => h) (Or.inl ⟨by rfl, ?_⟩) (by assumption) ?_
        rotate_left
        · intro w hSw; go_simp; first | done | with_reducible rfl
        try simp only [Act.put, List.setIfInBounds_toArray, List.set_cons_zero, List.set_cons_succ]
        refine wpAnyH_take (i := 1) (oi := ⟨some 61, _, _, _, _, _⟩) (v := ?_) rfl (by kernel_rfl) (by kernel_rfl) (by kernel_rfl) (fun _ _ _ h => h) (Or.inl ⟨by rfl, ?_⟩) (by assumption) ?_
        rotate_left
        · intro w hSw; go_simp; first | done | with_reducible rfl
        try simp only [Act.put, List.setIfInBounds_toArray, List.set_cons_zero, List.set_cons_succ]
        refine wpAnyH_take (i := 2) (oi := ⟨some 62, _, _, _, _, _⟩) (v := ?_) rfl (by kernel_rfl) (by kernel_rfl) (by kernel_rfl) (fun _ _ _ h => h) (Or.inl ⟨by rfl, ?_⟩) (by assumption) ?_
        rotate_left
        · intro w hSw; go_simp; first | done | with_reducible rfl
        try simp only [Act.put, List.setIfInBounds_toArray, List.set_cons_zero, List.set_cons_succ]
        refine wpAnyH_take (i := 4) (oi := ⟨some 64, _, _, _, _, _⟩) (v := ?_) rfl (by kernel_rfl) (by kernel_rfl) (by kernel_rfl) (fun _ _ _ h => h) (Or.inl ⟨by rfl, ?_⟩) (by assumption) ?_
        rotate_left
        · intro w hSw; go_simp; first | done | with_reducible rfl
        try simp only [Act.put, List.setIfInBounds_toArray, List.set_cons_zero, List.set_cons_succ]
        refine wpAnyH_ready (rs := [3]) (by kernel_rfl) (by simp) ?_
        refine AllReadyH.cons (o := ⟨some 63, _, _, _, _, _⟩) rfl (fun K hK => ?_) AllReadyH.nil
        go_simp
        refine (put_any DT.out ky (by omega) (by omega) (by omega) HP.out).mono ?_
        unfold putPost
        rintro r u2 ⟨rfl, ht, ho⟩
        have hze : u.heap.size ≤ u2.heap.size := ho.size
        have E8 := Lib.hid (D8.out.only ho KF.out)
        have ES := Lib.hid (tb_only DS.out ho NFX.out NFY.out)
        have EB : Hid (Both N u2 (fun j => (F j ∨ u.heap.size ≤ j) ∧ j < u2.heap.size) g seed c1 X1 p1 Y1 q1') := BO.out.join hNr ht.tight ES.out (by omega) (Nat.le_refl _) (fun a ha => (FX.out a ha).imp id (fun h => ⟨h, Or.inl (by have := LX.out a ha; omega)⟩)) (fun a ha => (FY.out a ha).imp id (fun h => ⟨h, Or.inl (by have := LY.out a ha; omega)⟩)) hc1l
        have EL : Hid (Below N W u2) := DL.out.trans (ho.below (fun j hf => (BO.out.fl j hf).1) (by omega))
        have NF : Hid (¬ ((F b8 ∨ u.heap.size ≤ b8) ∧ b8 < u2.heap.size)) := fun hf => by rcases hf.1 with h | h; exact KF.out h; omega
        clear ht ho
        go_simp
        refine hK.out _ _ (⟨E8.out.cell 0, E8.out.cell 1, E8.out.cell 2⟩) (fun hHeld => ?_)
        clear hK K
        try simp only [Act.put, List.setIfInBounds_toArray, List.set_cons_zero, List.set_cons_succ]
        refine wpAnyH_take (i := 5) (oi := ⟨some 65, _, _, _, _, _⟩) (v := ?_) rfl (by kernel_rfl) (by kernel_rfl) (by kernel_rfl) (fun _ _ _ h => h) (Or.inl ⟨by rfl, ?_⟩) (by assumption) ?_
        rotate_left
        · intro w hSw; go_simp; first | done | with_reducible rfl
        try simp only [Act.put, List.setIfInBounds_toArray, List.set_cons_zero, List.set_cons_succ]
        refine wpAnyH_take (i := 6) (oi := ⟨some 66, _, _, _, _, _⟩) (v := ?_) rfl (by kernel_rfl) (by kernel_rfl) (by kernel_rfl) (fun _ _ _ h => h) (Or.inl ⟨by rfl, ?_⟩) (by assumption) ?_
        rotate_left
        · intro w hSw; go_simp; first | done | with_reducible rfl
        try simp only [Act.put, List.setIfInBounds_toArray, List.set_cons_zero, List.set_cons_succ]
        refine wpAnyH_take (i := 7) (oi := ⟨some 67, _, _, _, _, _⟩) (v := ?_) rfl (by kernel_rfl) (by kernel_rfl) (by kernel_rfl) (fun _ _ _ h => h) (Or.inl ⟨by rfl, ?_⟩) (by assumption) ?_
        rotate_left
        · intro w hSw; go_simp; first | done | with_reducible rfl
        try simp only [Act.put, List.setIfInBounds_toArray, List.set_cons_zero, List.set_cons_succ]
        refine wpAnyH_take (i := 9) (oi := ⟨some 69, _, _, _, _, _⟩) (v := ?_) rfl (by kernel_rfl) (by kernel_rfl) (by kernel_rfl) (fun _ _ _ h => h) (Or.inl ⟨by rfl, ?_⟩) (by assumption) ?_
        rotate_left
        · intro w hSw; go_simp; first | done | with_reducible rfl
        try simp only [Act.put, List.setIfInBounds_toArray, List.set_cons_zero, List.set_cons_succ]
        refine wpAnyH_take (i := 10) (oi := ⟨some 70, _, _, _, _, _⟩) (v := ?_) rfl (by kernel_rfl) (by kernel_rfl) (by kernel_rfl) (fun _ _ _ h => h) (Or.inl ⟨by rfl, ?_⟩) (by assumption) ?_
        rotate_left
        · intro w hSw; go_simp; first | done | with_reducible rfl
        try simp only [Act.put, List.setIfInBounds_toArray, List.set_cons_zero, List.set_cons_succ]
        refine wpAnyH_take (i := 11) (oi := ⟨some 71, _, _, _, _, _⟩) (v := ?_) rfl (by kernel_rfl) (by kernel_rfl) (by kernel_rfl) (fun _ _ _ h => h) (Or.inl ⟨by rfl, ?_⟩) (by assumption) ?_
        rotate_left
        · intro w hSw; go_simp; first | done | with_reducible rfl
        try simp only [Act.put, List.setIfInBounds_toArray, List.set_cons_zero, List.set_cons_succ]
        refine wpAnyH_ready (rs := [8]) (by kernel_rfl) (by simp) ?_
        refine AllReadyH.cons (o := ⟨some 68, _, _, _, _, _⟩) rfl (fun K hK => ?_) AllReadyH.nil
        go_simp
        refine (size_any EB.out.t.pl).mono ?_
        rintro r u3 ⟨rfl, rfl⟩
        have K0 := hHeld
        go_simp
        refine hK.out _ _ (K0) (fun hHeld => ?_)
        clear hK K
        try simp only [Act.put, List.setIfInBounds_toArray, List.set_cons_zero, List.set_cons_succ]
        refine wpAnyH_take (i := 12) (oi := ⟨some 72, _, _, _, _, _⟩) (v := ?_) rfl (by kernel_rfl) (by kernel_rfl) (by kernel_rfl) (fun _ _ _ h => h) (Or.inl ⟨by rfl, ?_⟩) (by assumption) ?_
        rotate_left
        · intro w hSw; go_simp; first | done | with_reducible rfl
        try simp only [Act.put, List.setIfInBounds_toArray, List.set_cons_zero, List.set_cons_succ]
        refine wpAnyH_take (i := 13) (oi := ⟨some 73, _, _, _, _, _⟩) (v := ?_) rfl (by kernel_rfl) (by kernel_rfl) (by kernel_rfl) (fun _ _ _ h => h) (Or.inl ⟨by rfl, ?_⟩) (by assumption) ?_
        rotate_left
        · intro w hSw; go_simp; first | done | with_reducible rfl
        try simp only [Act.put, List.setIfInBounds_toArray, List.set_cons_zero, List.set_cons_succ]
        refine wpAnyH_take (i := 14) (oi := ⟨some 74, _, _, _, _, _⟩) (v := ?_) rfl (by kernel_rfl) (by kernel_rfl) (by kernel_rfl) (fun _ _ _ h => h) (Or.inl ⟨by rfl, ?_⟩) (by assumption) ?_
        rotate_left
        · intro w hSw; go_simp; first | done | with_reducible rfl
        try simp only [Act.put, List.setIfInBounds_toArray, List.set_cons_zero, List.set_cons_succ]
        refine wpAnyH_take (i := 15) (oi := ⟨some 75, _, _, _, _, _⟩) (v := ?_) rfl (by kernel_rfl) (by kernel_rfl) (by kernel_rfl) (fun _ _ _ h => h) (Or.inl ⟨by rfl, ?_⟩) (by assumption) ?_
        rotate_left
        · intro w hSw; go_simp; first | done | with_reducible rfl
        try simp only [Act.put, List.setIfInBounds_toArray, List.set_cons_zero, List.set_cons_succ]
        refine wpAnyH_take (i := 17) (oi := ⟨some 77, _, _, _, _, _⟩) (v := ?_) rfl (by kernel_rfl) (by kernel_rfl) (by kernel_rfl) (fun _ _ _ h => h) (Or.inl ⟨by rfl, ?_⟩) (by assumption) ?_
        rotate_left
        · intro w hSw; go_simp; first | done | with_reducible rfl
        try simp only [Act.put, List.setIfInBounds_toArray, List.set_cons_zero, List.set_cons_succ]
        refine wpAnyH_take (i := 18) (oi := ⟨some 78, _, _, _, _, _⟩) (v := ?_) rfl (by kernel_rfl) (by kernel_rfl) (by kernel_rfl) (fun _ _ _ h => h) (Or.inl ⟨by rfl, ?_⟩) (by assumption) ?_
        rotate_left
        · intro w hSw; go_simp; first | done | with_reducible rfl
        try simp only [Act.put, List.setIfInBounds_toArray, List.set_cons_zero, List.set_cons_succ]
        refine wpAnyH_ready (rs := [16]) (by kernel_rfl) (by simp) ?_
        refine AllReadyH.cons (o := ⟨some 76, _, _, _, _, _⟩) rfl (fun K hK => ?_) AllReadyH.nil
        go_simp
        refine (plen_any EB.out.t).mono ?_
        rw [HC1.out]
        rintro r u4 ⟨rfl, rfl⟩
        have K0 := hHeld
        go_simp
        refine hK.out _ _ (K0) (fun hHeld => ?_)
        clear hK K
        try simp only [Act.put, List.setIfInBounds_toArray, List.set_cons_zero, List.set_cons_succ]
        refine wpAnyH_take (i := 19) (oi := ⟨some 79, _, _, _, _, _⟩) (v := ?_) rfl (by kernel_rfl) (by kernel_rfl) (by kernel_rfl) (fun _ _ _ h => h) (Or.inl ⟨by rfl, ?_⟩) (by assumption) ?_
        rotate_left
        · intro w hSw; go_simp; first | done | with_reducible rfl
        try simp only [Act.put, List.setIfInBounds_toArray, List.set_cons_zero, List.set_cons_succ]
        refine wpAnyH_take (i := 20) (oi := ⟨some 80, _, _, _, _, _⟩) (v := ?_) rfl (by kernel_rfl) (by kernel_rfl) (by kernel_rfl) (fun _ _ _ h => h) (Or.inl ⟨by rfl, ?_⟩) (by assumption) ?_
        rotate_left
        · intro w hSw; go_simp; first | done | with_reducible rfl
        try simp only [Act.put, List.setIfInBounds_toArray, List.set_cons_zero, List.set_cons_succ]
        refine wpAnyH_done (by kernel_rfl) ?_ _
        refine NoPanic.normal ?_
        have EBf := EB
        have E8f := E8
        clear hHeld x0 x1 x2
        go_wp2_with fail
        try go_big_round
        refine ⟨?rel, ?measure⟩
        case rel => exact ⟨k + 1, _, c1, X1, Y1, p1, q1', by omega, by go_num, by show _ = _; have := HC1.out; omega, HM1, EBf.out, E8f.out, NF.out, NX1.out, NY1.out, EL.out, by omega⟩
        case measure => simp [intOf]; omega
      · obtain rfl : k = L := by omega
        have hnn : ¬ (k : Int) < k := by omega
        clear hlt hk hmem
        go_wp2_with fail
        go_loopw [13] (fun i wr => ∃ (j : Nat) (F : Nat → Prop) (c : List (Cell Key)) (X Y : Option Addr) (p q : Nat), j ≤ k ∧ i = .int .i64 (j : Int) ∧ cnt c ≤ k ∧ Both N wr F g seed c X p Y q ∧ Blk wr b8 #[.int .u64 seed, .slice X c.length p, .slice Y c.length q] 31 ∧ ¬ F b8 ∧ (∀ a, X = some a → a.block ≠ b8) ∧ (∀ a, Y = some a → a.block ≠ b8) ∧ Below N W wr ∧ N ≤ wr.heap.size) (fun i _ => k - (intOf i).toNat)
        case atStart => exact ⟨0, F, c, X, Y, p, q, Nat.zero_le _, rfl, by have := hcn.out; omega, BO.out, K8.out, KF.out, KX.out, KY.out, BL.out, hNr⟩
        case round =>
          clear BO K8 KF KX KY BL hNr hcl hcn hnn
          obtain ⟨j, F, c, X, Y, p, q, hj, rfl, hcn, hbo, h8, hF8, hX8, hY8, hbl, hNr⟩ := hrel
          have BO := Lib.hid hbo; have K8 := Lib.hid h8; have KF := Lib.hid hF8; have KX := Lib.hid hX8; have KY := Lib.hid hY8; have BL := Lib.hid hbl
          have hfew := hbo.t.good.few
          have hcl : c.length ≤ 10000 := by omega
          clear hbo h8 hF8 hX8 hY8 hbl hfew
          by_cases hlt : j < k
          · have j1 : (j : Int) < (k : Int) := by omega
            obtain ⟨t, rfl⟩ : ∃ t : Nat, st = (t : Int) := ⟨st.toNat, by omega⟩
            obtain ⟨kk, hkk⟩ : ∃ kk, kk = (j * t) % k := ⟨_, rfl⟩
            have hkl' : kk < k := by rw [hkk]; exact Nat.mod_lt _ (by omega)
            have hbd : j * t ≤ 300 * 1000 := Nat.mul_le_mul (by omega) (by omega)
            have jt1 : (j : Int) * (t : Int) = ((j * t : Nat) : Int) := by simp
            obtain ⟨z, hz⟩ : ∃ z, z = j * t := ⟨_, rfl⟩
            rw [← hz] at jt1 hkk hbd
            have m1 : (z : Int).tmod (k : Int) = (kk : Int) := by rw [hkk]; exact (Int.ofNat_tmod z k).symm
            have m2 : (z : Int) % (k : Int) = (kk : Int) := by rw [hkk]; simp
            have j0 : (0 : Int) < (k : Int) := by omega
            have j2 : (k : Int) ≠ 0 := by omega
            have j3 : (k : Int) ≤ 300 := by omega
            have j4 : (kk : Int) < (k : Int) := by omega
            have j5 : (z : Int) ≤ 300000 := by omega
            obtain ⟨ky, hky⟩ : ∃ ky, ky = kOf kk := ⟨_, rfl⟩
            have hkl : ky.length = 2 := by rw [hky]; rfl
            obtain ⟨c1, m, e, hP, _⟩ := dels_ex BO.out.t.good ky
            have HP := Lib.hid hP
            obtain ⟨hc1c, hc1l⟩ := dels_le BO.out.t.good hP
            have hcv : ∀ w : World, (convert 39 9 (.slice (some ⟨w.heap.size, 0, none⟩) 2 2)).run Try.prog (w.alloc (.cells #[.int .u8 ((kk : Int) % 256), .int .u8 ((kk : Int) / 256)] 5)) = .ok (.string ⟨ky.toArray⟩) (w.alloc (.cells #[.int .u8 ((kk : Int) % 256), .int .u8 ((kk : Int) / 256)] 5)) := fun w => by rw [hky]; exact conv_two w kk (by omega)
            clear hP hky hz hkk
            obtain ⟨v0, hv0⟩ : ∃ v0, v0 = wr.alloc (.cells #[.int .u8 ((kk : Int) % 256), .int .u8 ((kk : Int) / 256)] 5) := ⟨_, rfl⟩
            have b0 : Below wr.heap.size wr v0 := by rw [hv0]; exact bnew _ _
            have J8 := Lib.hid (K8.out.below b0 K8.out.lt)
            have BO0 := Lib.hid (BO.out.below b0 (Nat.le_refl _))
            have BL0 := Lib.hid (BL.out.trans (b0.mono hNr))
            have lz0 : wr.heap.size < v0.heap.size := by rw [hv0]; simp
            have l8r : b8 < wr.heap.size := K8.out.lt
            have HR := Lib.hid (rdel_any BO0.out.s BO.out.t.good BO.out.t.pl.kys HSD.out ky (by omega) (by omega) HP.out)
            unfold tabPost at HR
            clear b0
            go_upto_region 19 with (fail)
            rw [← hv0]
            clear hv0 hcv
            obtain ⟨x0, x1, x2, _⟩ := J8.out.three
            go_wp2_with fail
            refine HR.out.mono ?_
            rintro r v1 ⟨X1, p1, Y1, q1', rfl, hs, hb, fx, fy⟩
            have J81 := Lib.hid (J8.out.below hb J8.out.lt)
            have BT1 := Lib.hid (BO0.out.t.below hb (Nat.le_refl _))
            have BL1 := Lib.hid (BL0.out.trans (hb.mono (by omega)))
            have lz1 : v0.heap.size ≤ v1.heap.size := hb.size
            have SS := Lib.hid hs
            have LX : Hid (∀ a, X1 = some a → a.block < v1.heap.size) := (tb_lt hs hc1l).1
            have LY : Hid (∀ a, Y1 = some a → a.block < v1.heap.size) := (tb_lt hs hc1l).2
            have FX : Hid (∀ a, X1 = some a → X = some a ∨ wr.heap.size ≤ a.block) := fun a ha => (fx a ha).imp id (fun h => by omega)
            have FY : Hid (∀ a, Y1 = some a → Y = some a ∨ wr.heap.size ≤ a.block) := fun a ha => (fy a ha).imp id (fun h => by omega)
            have NX1 : Hid (∀ a, X1 = some a → a.block ≠ b8) := fun a ha => by rcases FX.out a ha with h | h; exact KX.out a h; omega
            have NY1 : Hid (∀ a, Y1 = some a → a.block ≠ b8) := fun a ha => by rcases FY.out a ha with h | h; exact KY.out a h; omega
            have NFX : Hid (∀ a, X1 = some a → ¬ F a.block) := fun a ha hf => by rcases FX.out a ha with h | h; exact (BO.out.xF a h).1 hf; (have := (BO.out.fl _ hf).2; omega)
            have NFY : Hid (∀ a, Y1 = some a → ¬ F a.block) := fun a ha hf => by rcases FY.out a ha with h | h; exact (BO.out.yF a h).1 hf; (have := (BO.out.fl _ hf).2; omega)
            obtain ⟨v2, hv2⟩ : ∃ v2, v2 = v1.alloc (.cells #[.int .u64 seed, .slice X1 c1.length p1, .slice Y1 c1.length q1'] 31) := ⟨_, rfl⟩
            obtain ⟨b11, hb11⟩ : ∃ b11, b11 = v1.heap.size := ⟨_, rfl⟩
            have b2 : Below v1.heap.size v1 v2 := by rw [hv2]; exact bnew _ _
            have P11 : Hid (Blk v2 b11 #[.int .u64 seed, .slice X1 c1.length p1, .slice Y1 c1.length q1'] 31) := by show Blk _ _ _ _; rw [hv2, hb11]; exact Blk.new _ _ _
            have J82 := Lib.hid (J81.out.below b2 J81.out.lt)
            have BT2 := Lib.hid (BT1.out.below b2 (Nat.le_refl _))
            have SS2 := Lib.hid (SS.out.below b2 (Nat.le_refl _))
            have BL2 := Lib.hid (BL1.out.trans (b2.mono (by omega)))
            have lz2 : v1.heap.size ≤ v2.heap.size := b2.size
            have l11 : b11 < v2.heap.size := P11.out.lt
            have l82 : b8 < v2.heap.size := J82.out.lt
            clear hs hb fx fy b2 x0 x1 x2 HR
            go_upto_region 20 with (fail)
            rw [← hv2, ← hb11]
            clear hv2 hb11
            obtain ⟨y0, y1, y2, _⟩ := P11.out.three
            obtain ⟨x0, x1, x2, xf0, xf1, xf2⟩ := J82.out.three
            go_upto_region 21 with (fail)
            obtain ⟨v3, hv3⟩ : ∃ v3, v3 = ((v2.setCell ⟨b8, 0, none⟩ (.int .u64 seed)).setCell ⟨b8, 1, none⟩ (.slice X1 c1.length p1)).setCell ⟨b8, 2, none⟩ (.slice Y1 c1.length q1') := ⟨_, rfl⟩
            have O3 : Only (fun j => j = b8) v2 v3 := by rw [hv3]; exact three_only _ _ _
            have K83 : Hid (Blk v3 b8 #[.int .u64 seed, .slice X1 c1.length p1, .slice Y1 c1.length q1'] 31) := by
              have h1 := ((J82.out.set 0 (.int .u64 seed)).set 1 (.slice X1 c1.length p1)).set 2 (.slice Y1 c1.length q1')
              show Blk _ _ _ _
              rw [hv3]; exact h1
            have BT3 := Lib.hid (BT2.out.only O3 (fun j hf e => KF.out (by rw [← e]; exact hf)))
            have SS3 := Lib.hid (tb_only SS2.out O3 NX1.out NY1.out)
            have BL3 : Hid (Below N W v3) := BL2.out.trans (O3.below (fun j e => by omega) (by omega))
            have lz3 : v2.heap.size ≤ v3.heap.size := O3.size
            rw [← hv3]
            clear hv3 O3 x0 x1 x2 xf0 xf1 xf2 y0 y1 y2
            obtain ⟨x0, x1, x2, _⟩ := K83.out.three
            have D8 := Lib.hid (show Blk v3.drew b8 _ _ from K83.out)
            have DT := Lib.hid (BT3.out.below ((Below.refl v3.heap.size v3).drew) (Nat.le_refl _))
            have DS := Lib.hid (SS3.out.below ((Below.refl v3.heap.size v3).drew) (Nat.le_refl _))
            have DL := Lib.hid BL3.out.drew
            have hzd : v3.heap.size ≤ v3.drew.heap.size := Nat.le_refl _
            obtain ⟨x16, hx16⟩ : ∃ x16, x16 = j % 16 := ⟨_, rfl⟩
            have t16 : (j : Int).tmod 16 = (x16 : Int) := by rw [hx16]; exact (Int.ofNat_tmod j 16).symm
            have m16 : (j : Int) % 16 = (x16 : Int) := by rw [hx16]; simp
            have l16 : (x16 : Int) < 16 := by omega
            clear hx16
            by_cases h16 : (x16 : Int) = 0
            · have q16 : ((x16 : Int) == 0) = true := by simpa using h16
              clear h16
              refine wp_region_noPanic ?_
              refine wp_region_held_drew (S := fun v => v.cell? ⟨b8, 0, none⟩ = some (.int .u64 seed) ∧ v.cell? ⟨b8, 1, none⟩ = some (.slice X1 c1.length p1) ∧ v.cell? ⟨b8, 2, none⟩ = some (.slice Y1 c1.length q1')) (by kernel_rfl) (⟨x0, x1, x2⟩) (fun hHeld => ?_)
              generalize v3.drew = u at D8 DT DS DL hzd hHeld ⊢
              refine wpAnyH_take (i := 0) (oi := ⟨some 106, _, _, _, _, _⟩) (v := ?_) rfl (by kernel_rfl) (by kernel_rfl) (by kernel_rfl) (fun _ _ _ h => h) (Or.inl ⟨by rfl, ?_⟩) (by assumption) ?_
              rotate_left
              · intro w hSw; go_simp; first | done | with_reducible rfl
              try simp only [Act.put, List.setIfInBounds_toArray, List.set_cons_zero, List.set_cons_succ]
              refine wpAnyH_take (i := 1) (oi := ⟨some 107, _, _, _, _, _⟩) (v := ?_) rfl (by kernel_rfl) (by kernel_rfl) (by kernel_rfl) (fun _ _ _ h => h) (Or.inl ⟨by rfl, ?_⟩) (by assumption) ?_
              rotate_left
              · intro w hSw; go_simp; first | done | with_reducible rfl
              try simp only [Act.put, List.setIfInBounds_toArray, List.set_cons_zero, List.set_cons_succ]
              refine wpAnyH_take (i := 2) (oi := ⟨some 108, _, _, _, _, _⟩) (v := ?_) rfl (by kernel_rfl) (by kernel_rfl) (by kernel_rfl) (fun _ _ _ h => h) (Or.inl ⟨by rfl, ?_⟩) (by assumption) ?_
              rotate_left
              · intro w hSw; go_simp; first | done | with_reducible rfl
              try simp only [Act.put, List.setIfInBounds_toArray, List.set_cons_zero, List.set_cons_succ]
              refine wpAnyH_take (i := 3) (oi := ⟨some 109, _, _, _, _, _⟩) (v := ?_) rfl (by kernel_rfl) (by kernel_rfl) (by kernel_rfl) (fun _ _ _ h => h) (Or.inl ⟨by rfl, ?_⟩) (by assumption) ?_
              rotate_left
              · intro w hSw; go_simp; first | done | with_reducible rfl
              try simp only [Act.put, List.setIfInBounds_toArray, List.set_cons_zero, List.set_cons_succ]
              refine wpAnyH_ready (rs := [4]) (by kernel_rfl) (by simp) ?_
              refine AllReadyH.cons (o := ⟨some 110, _, _, _, _, _⟩) rfl (fun K hK => ?_) AllReadyH.nil
              go_simp
              refine (dels_true ky m e (R := fun v => Pt (More F u) v g seed c1 ∧ Only F u v) ((del_any DT.out ky (by omega) (by omega) HP.out).mono fun _ _ h => h)).mono ?_
              rintro r u2 ⟨rfl, ht, ho⟩
              have hze : u.heap.size ≤ u2.heap.size := ho.size
              have E8 := Lib.hid (D8.out.only ho KF.out)
              have ES := Lib.hid (tb_only DS.out ho NFX.out NFY.out)
              have EB : Hid (Both N u2 (fun j => (F j ∨ u.heap.size ≤ j) ∧ j < u2.heap.size) g seed c1 X1 p1 Y1 q1') := BO.out.join hNr ht.tight ES.out (by omega) (Nat.le_refl _) (fun a ha => (FX.out a ha).imp id (fun h => ⟨h, Or.inl (by have := LX.out a ha; omega)⟩)) (fun a ha => (FY.out a ha).imp id (fun h => ⟨h, Or.inl (by have := LY.out a ha; omega)⟩)) hc1l
              have EL : Hid (Below N W u2) := DL.out.trans (ho.below (fun j hf => (BO.out.fl j hf).1) (by omega))
              have NF : Hid (¬ ((F b8 ∨ u.heap.size ≤ b8) ∧ b8 < u2.heap.size)) := fun hf => by rcases hf.1 with h | h; exact KF.out h; omega
              clear ht ho
              go_simp
              refine hK.out _ _ (⟨E8.out.cell 0, E8.out.cell 1, E8.out.cell 2⟩) (fun hHeld => ?_)
              clear hK K
              try simp only [Act.put, List.setIfInBounds_toArray, List.set_cons_zero, List.set_cons_succ]
              refine wpAnyH_take (i := 5) (oi := ⟨some 111, _, _, _, _, _⟩) (v := ?_) rfl (by kernel_rfl) (by kernel_rfl) (by kernel_rfl) (fun _ _ _ h => h) (Or.inl ⟨by rfl, ?_⟩) (by assumption) ?_
              rotate_left
              · intro w hSw; go_simp; first | done | with_reducible rfl
              try simp only [Act.put, List.setIfInBounds_toArray, List.set_cons_zero, List.set_cons_succ]
              refine wpAnyH_take (i := 6) (oi := ⟨some 112, _, _, _, _, _⟩) (v := ?_) rfl (by kernel_rfl) (by kernel_rfl) (by kernel_rfl) (fun _ _ _ h => h) (Or.inl ⟨by rfl, ?_⟩) (by assumption) ?_
              rotate_left
              · intro w hSw; go_simp; first | done | with_reducible rfl
              try simp only [Act.put, List.setIfInBounds_toArray, List.set_cons_zero, List.set_cons_succ]
              refine wpAnyH_take (i := 7) (oi := ⟨some 113, _, _, _, _, _⟩) (v := ?_) rfl (by kernel_rfl) (by kernel_rfl) (by kernel_rfl) (fun _ _ _ h => h) (Or.inl ⟨by rfl, ?_⟩) (by assumption) ?_
              rotate_left
              · intro w hSw; go_simp; first | done | with_reducible rfl
              try simp only [Act.put, List.setIfInBounds_toArray, List.set_cons_zero, List.set_cons_succ]
              refine wpAnyH_take (i := 9) (oi := ⟨some 115, _, _, _, _, _⟩) (v := ?_) rfl (by kernel_rfl) (by kernel_rfl) (by kernel_rfl) (fun _ _ _ h => h) (Or.inl ⟨by rfl, ?_⟩) (by assumption) ?_
              rotate_left
              · intro w hSw; go_simp; first | done | with_reducible rfl
              try simp only [Act.put, List.setIfInBounds_toArray, List.set_cons_zero, List.set_cons_succ]
              refine wpAnyH_take (i := 10) (oi := ⟨some 116, _, _, _, _, _⟩) (v := ?_) rfl (by kernel_rfl) (by kernel_rfl) (by kernel_rfl) (fun _ _ _ h => h) (Or.inl ⟨by rfl, ?_⟩) (by assumption) ?_
              rotate_left
              · intro w hSw; go_simp; first | done | with_reducible rfl
              try simp only [Act.put, List.setIfInBounds_toArray, List.set_cons_zero, List.set_cons_succ]
              refine wpAnyH_take (i := 11) (oi := ⟨some 117, _, _, _, _, _⟩) (v := ?_) rfl (by kernel_rfl) (by kernel_rfl) (by kernel_rfl) (fun _ _ _ h => h) (Or.inl ⟨by rfl, ?_⟩) (by assumption) ?_
              rotate_left
              · intro w hSw; go_simp; first | done | with_reducible rfl
              try simp only [Act.put, List.setIfInBounds_toArray, List.set_cons_zero, List.set_cons_succ]
              refine wpAnyH_ready (rs := [8]) (by kernel_rfl) (by simp) ?_
              refine AllReadyH.cons (o := ⟨some 114, _, _, _, _, _⟩) rfl (fun K hK => ?_) AllReadyH.nil
              go_simp
              refine (size_any EB.out.t.pl).mono ?_
              rintro r u3 ⟨rfl, rfl⟩
              have K0 := hHeld
              go_simp
              refine hK.out _ _ (K0) (fun hHeld => ?_)
              clear hK K
              try simp only [Act.put, List.setIfInBounds_toArray, List.set_cons_zero, List.set_cons_succ]
              refine wpAnyH_take (i := 12) (oi := ⟨some 118, _, _, _, _, _⟩) (v := ?_) rfl (by kernel_rfl) (by kernel_rfl) (by kernel_rfl) (fun _ _ _ h => h) (Or.inl ⟨by rfl, ?_⟩) (by assumption) ?_
              rotate_left
              · intro w hSw; go_simp; first | done | with_reducible rfl
              try simp only [Act.put, List.setIfInBounds_toArray, List.set_cons_zero, List.set_cons_succ]
              refine wpAnyH_take (i := 13) (oi := ⟨some 119, _, _, _, _, _⟩) (v := ?_) rfl (by kernel_rfl) (by kernel_rfl) (by kernel_rfl) (fun _ _ _ h => h) (Or.inl ⟨by rfl, ?_⟩) (by assumption) ?_
              rotate_left
              · intro w hSw; go_simp; first | done | with_reducible rfl
              try simp only [Act.put, List.setIfInBounds_toArray, List.set_cons_zero, List.set_cons_succ]
              refine wpAnyH_take (i := 14) (oi := ⟨some 120, _, _, _, _, _⟩) (v := ?_) rfl (by kernel_rfl) (by kernel_rfl) (by kernel_rfl) (fun _ _ _ h => h) (Or.inl ⟨by rfl, ?_⟩) (by assumption) ?_
              rotate_left
              · intro w hSw; go_simp; first | done | with_reducible rfl
              try simp only [Act.put, List.setIfInBounds_toArray, List.set_cons_zero, List.set_cons_succ]
              refine wpAnyH_take (i := 15) (oi := ⟨some 121, _, _, _, _, _⟩) (v := ?_) rfl (by kernel_rfl) (by kernel_rfl) (by kernel_rfl) (fun _ _ _ h => h) (Or.inl ⟨by rfl, ?_⟩) (by assumption) ?_
              rotate_left
              · intro w hSw; go_simp; first | done | with_reducible rfl
              try simp only [Act.put, List.setIfInBounds_toArray, List.set_cons_zero, List.set_cons_succ]
              refine wpAnyH_take (i := 16) (oi := ⟨some 122, _, _, _, _, _⟩) (v := ?_) rfl (by kernel_rfl) (by kernel_rfl) (by kernel_rfl) (fun _ _ _ h => h) (Or.inl ⟨by rfl, ?_⟩) (by assumption) ?_
              rotate_left
              · intro w hSw; go_simp; first | done | with_reducible rfl
              try simp only [Act.put, List.setIfInBounds_toArray, List.set_cons_zero, List.set_cons_succ]
              refine wpAnyH_take (i := 17) (oi := ⟨some 123, _, _, _, _, _⟩) (v := ?_) rfl (by kernel_rfl) (by kernel_rfl) (by kernel_rfl) (fun _ _ _ h => h) (Or.inl ⟨by rfl, ?_⟩) (by assumption) ?_
              rotate_left
              · intro w hSw; go_simp; first | done | with_reducible rfl
              try simp only [Act.put, List.setIfInBounds_toArray, List.set_cons_zero, List.set_cons_succ]
              refine wpAnyH_take (i := 18) (oi := ⟨some 124, _, _, _, _, _⟩) (v := ?_) rfl (by kernel_rfl) (by kernel_rfl) (by kernel_rfl) (fun _ _ _ h => h) (Or.inl ⟨by rfl, ?_⟩) (by assumption) ?_
              rotate_left
              · intro w hSw; go_simp; first | done | with_reducible rfl
              try simp only [Act.put, List.setIfInBounds_toArray, List.set_cons_zero, List.set_cons_succ]
              refine wpAnyH_take (i := 19) (oi := ⟨some 125, _, _, _, _, _⟩) (v := ?_) rfl (by kernel_rfl) (by kernel_rfl) (by kernel_rfl) (fun _ _ _ h => h) (Or.inl ⟨by rfl, ?_⟩) (by assumption) ?_
              rotate_left
              · intro w hSw; go_simp; first | done | with_reducible rfl
              try simp only [Act.put, List.setIfInBounds_toArray, List.set_cons_zero, List.set_cons_succ]
              refine wpAnyH_take (i := 20) (oi := ⟨some 126, _, _, _, _, _⟩) (v := ?_) rfl (by kernel_rfl) (by kernel_rfl) (by kernel_rfl) (fun _ _ _ h => h) (Or.inl ⟨by rfl, ?_⟩) (by assumption) ?_
              rotate_left
              · intro w hSw; go_simp; first | done | with_reducible rfl
              try simp only [Act.put, List.setIfInBounds_toArray, List.set_cons_zero, List.set_cons_succ]
              refine wpAnyH_ready (rs := [21]) (by kernel_rfl) (by simp) ?_
              refine AllReadyH.cons (o := ⟨some 127, _, _, _, _, _⟩) rfl (fun K hK => ?_) AllReadyH.nil
              go_simp
              have LK := looks_true EB.out.t EB.out.s
              unfold boolTo at LK
              refine LK.mono ?_
              rintro r u5 ⟨rfl, hb5⟩
              have E85 := Lib.hid (E8.out.below hb5 E8.out.lt)
              have EB5 := Lib.hid (EB.out.below hb5 (Nat.le_refl _))
              have EL5 := Lib.hid (EL.out.trans (hb5.mono (by omega)))
              have hz5 := hb5.size
              clear hb5 LK
              go_simp
              refine hK.out _ _ (⟨E85.out.cell 0, E85.out.cell 1, E85.out.cell 2⟩) (fun hHeld => ?_)
              clear hK K
              try simp only [Act.put, List.setIfInBounds_toArray, List.set_cons_zero, List.set_cons_succ]
              refine wpAnyH_take (i := 22) (oi := ⟨some 128, _, _, _, _, _⟩) (v := ?_) rfl (by kernel_rfl) (by kernel_rfl) (by kernel_rfl) (fun _ _ _ h => h) (Or.inl ⟨by rfl, ?_⟩) (by assumption) ?_
              rotate_left
              · intro w hSw; go_simp; first | done | with_reducible rfl
              try simp only [Act.put, List.setIfInBounds_toArray, List.set_cons_zero, List.set_cons_succ]
              refine wpAnyH_take (i := 23) (oi := ⟨some 129, _, _, _, _, _⟩) (v := ?_) rfl (by kernel_rfl) (by kernel_rfl) (by kernel_rfl) (fun _ _ _ h => h) (Or.inl ⟨by rfl, ?_⟩) (by assumption) ?_
              rotate_left
              · intro w hSw; go_simp; first | done | with_reducible rfl
              try simp only [Act.put, List.setIfInBounds_toArray, List.set_cons_zero, List.set_cons_succ]
              refine wpAnyH_take (i := 24) (oi := ⟨some 130, _, _, _, _, _⟩) (v := ?_) rfl (by kernel_rfl) (by kernel_rfl) (by kernel_rfl) (fun _ _ _ h => h) (Or.inl ⟨by rfl, ?_⟩) (by assumption) ?_
              rotate_left
              · intro w hSw; go_simp; first | done | with_reducible rfl
              try simp only [Act.put, List.setIfInBounds_toArray, List.set_cons_zero, List.set_cons_succ]
              refine wpAnyH_done (by kernel_rfl) ?_ _
              refine NoPanic.normal ?_
              clear hHeld x0 x1 x2
              go_wp2_with fail
              try go_big_round
              refine ⟨?rel, ?measure⟩
              case rel => exact ⟨j + 1, _, c1, X1, Y1, p1, q1', by omega, by go_num, by omega, EB5.out, E85.out, NF.out, NX1.out, NY1.out, EL5.out, by omega⟩
              case measure => simp [intOf]; omega
            · have q16 : ((x16 : Int) == 0) = false := by simpa using h16
              clear h16
              refine wp_region_noPanic ?_
              refine wp_region_held_drew (S := fun v => v.cell? ⟨b8, 0, none⟩ = some (.int .u64 seed) ∧ v.cell? ⟨b8, 1, none⟩ = some (.slice X1 c1.length p1) ∧ v.cell? ⟨b8, 2, none⟩ = some (.slice Y1 c1.length q1')) (by kernel_rfl) (⟨x0, x1, x2⟩) (fun hHeld => ?_)
              generalize v3.drew = u at D8 DT DS DL hzd hHeld ⊢
              refine wpAnyH_take (i := 0) (oi := ⟨some 106, _, _, _, _, _⟩) (v := ?_) rfl (by kernel_rfl) (by kernel_rfl) (by kernel_rfl) (fun _ _ _ h => h) (Or.inl ⟨by rfl, ?_⟩) (by assumption) ?_
              rotate_left
              · intro w hSw; go_simp; first | done | with_reducible rfl
              try simp only [Act.put, List.setIfInBounds_toArray, List.set_cons_zero, List.set_cons_succ]
              refine wpAnyH_take (i := 1) (oi := ⟨some 107, _, _, _, _, _⟩) (v := ?_) rfl (by kernel_rfl) (by kernel_rfl) (by kernel_rfl) (fun _ _ _ h => h) (Or.inl ⟨by rfl, ?_⟩) (by assumption) ?_
              rotate_left
              · intro w hSw; go_simp; first | done | with_reducible rfl
              try simp only [Act.put, List.setIfInBounds_toArray, List.set_cons_zero, List.set_cons_succ]
              refine wpAnyH_take (i := 2) (oi := ⟨some 108, _, _, _, _, _⟩) (v := ?_) rfl (by kernel_rfl) (by kernel_rfl) (by kernel_rfl) (fun _ _ _ h => h) (Or.inl ⟨by rfl, ?_⟩) (by assumption) ?_
              rotate_left
              · intro w hSw; go_simp; first | done | with_reducible rfl
              try simp only [Act.put, List.setIfInBounds_toArray, List.set_cons_zero, List.set_cons_succ]
              refine wpAnyH_take (i := 3) (oi := ⟨some 109, _, _, _, _, _⟩) (v := ?_) rfl (by kernel_rfl) (by kernel_rfl) (by kernel_rfl) (fun _ _ _ h => h) (Or.inl ⟨by rfl, ?_⟩) (by assumption) ?_
              rotate_left
              · intro w hSw; go_simp; first | done | with_reducible rfl
              try simp only [Act.put, List.setIfInBounds_toArray, List.set_cons_zero, List.set_cons_succ]
              refine wpAnyH_ready (rs := [4]) (by kernel_rfl) (by simp) ?_
              refine AllReadyH.cons (o := ⟨some 110, _, _, _, _, _⟩) rfl (fun K hK => ?_) AllReadyH.nil
              go_simp
              refine (dels_true ky m e (R := fun v => Pt (More F u) v g seed c1 ∧ Only F u v) ((del_any DT.out ky (by omega) (by omega) HP.out).mono fun _ _ h => h)).mono ?_
              rintro r u2 ⟨rfl, ht, ho⟩
              have hze : u.heap.size ≤ u2.heap.size := ho.size
              have E8 := Lib.hid (D8.out.only ho KF.out)
              have ES := Lib.hid (tb_only DS.out ho NFX.out NFY.out)
              have EB : Hid (Both N u2 (fun j => (F j ∨ u.heap.size ≤ j) ∧ j < u2.heap.size) g seed c1 X1 p1 Y1 q1') := BO.out.join hNr ht.tight ES.out (by omega) (Nat.le_refl _) (fun a ha => (FX.out a ha).imp id (fun h => ⟨h, Or.inl (by have := LX.out a ha; omega)⟩)) (fun a ha => (FY.out a ha).imp id (fun h => ⟨h, Or.inl (by have := LY.out a ha; omega)⟩)) hc1l
              have EL : Hid (Below N W u2) := DL.out.trans (ho.below (fun j hf => (BO.out.fl j hf).1) (by omega))
              have NF : Hid (¬ ((F b8 ∨ u.heap.size ≤ b8) ∧ b8 < u2.heap.size)) := fun hf => by rcases hf.1 with h | h; exact KF.out h; omega
              clear ht ho
              go_simp
              refine hK.out _ _ (⟨E8.out.cell 0, E8.out.cell 1, E8.out.cell 2⟩) (fun hHeld => ?_)
              clear hK K
              try simp only [Act.put, List.setIfInBounds_toArray, List.set_cons_zero, List.set_cons_succ]
              refine wpAnyH_take (i := 5) (oi := ⟨some 111, _, _, _, _, _⟩) (v := ?_) rfl (by kernel_rfl) (by kernel_rfl) (by kernel_rfl) (fun _ _ _ h => h) (Or.inl ⟨by rfl, ?_⟩) (by assumption) ?_
              rotate_left
              · intro w hSw; go_simp; first | done | with_reducible rfl
              try simp only [Act.put, List.setIfInBounds_toArray, List.set_cons_zero, List.set_cons_succ]
              refine wpAnyH_take (i := 6) (oi := ⟨some 112, _, _, _, _, _⟩) (v := ?_) rfl (by kernel_rfl) (by kernel_rfl) (by kernel_rfl) (fun _ _ _ h => h) (Or.inl ⟨by rfl, ?_⟩) (by assumption) ?_
              rotate_left
              · intro w hSw; go_simp; first | done | with_reducible rfl
              try simp only [Act.put, List.setIfInBounds_toArray, List.set_cons_zero, List.set_cons_succ]
              refine wpAnyH_take (i := 7) (oi := ⟨some 113, _, _, _, _, _⟩) (v := ?_) rfl (by kernel_rfl) (by kernel_rfl) (by kernel_rfl) (fun _ _ _ h => h) (Or.inl ⟨by rfl, ?_⟩) (by assumption) ?_
              rotate_left
              · intro w hSw; go_simp; first | done | with_reducible rfl
              try simp only [Act.put, List.setIfInBounds_toArray, List.set_cons_zero, List.set_cons_succ]
              refine wpAnyH_take (i := 9) (oi := ⟨some 115, _, _, _, _, _⟩) (v := ?_) rfl (by kernel_rfl) (by kernel_rfl) (by kernel_rfl) (fun _ _ _ h => h) (Or.inl ⟨by rfl, ?_⟩) (by assumption) ?_
              rotate_left
              · intro w hSw; go_simp; first | done | with_reducible rfl
              try simp only [Act.put, List.setIfInBounds_toArray, List.set_cons_zero, List.set_cons_succ]
              refine wpAnyH_take (i := 10) (oi := ⟨some 116, _, _, _, _, _⟩) (v := ?_) rfl (by kernel_rfl) (by kernel_rfl) (by kernel_rfl) (fun _ _ _ h => h) (Or.inl ⟨by rfl, ?_⟩) (by assumption) ?_
              rotate_left
              · intro w hSw; go_simp; first | done | with_reducible rfl
              try simp only [Act.put, List.setIfInBounds_toArray, List.set_cons_zero, List.set_cons_succ]
              refine wpAnyH_take (i := 11) (oi := ⟨some 117, _, _, _, _, _⟩) (v := ?_) rfl (by kernel_rfl) (by kernel_rfl) (by kernel_rfl) (fun _ _ _ h => h) (Or.inl ⟨by rfl, ?_⟩) (by assumption) ?_
              rotate_left
              · intro w hSw; go_simp; first | done | with_reducible rfl
              try simp only [Act.put, List.setIfInBounds_toArray, List.set_cons_zero, List.set_cons_succ]
              refine wpAnyH_ready (rs := [8]) (by kernel_rfl) (by simp) ?_
              refine AllReadyH.cons (o := ⟨some 114, _, _, _, _, _⟩) rfl (fun K hK => ?_) AllReadyH.nil
              go_simp
              refine (size_any EB.out.t.pl).mono ?_
              rintro r u3 ⟨rfl, rfl⟩
              have K0 := hHeld
              go_simp
              refine hK.out _ _ (K0) (fun hHeld => ?_)
              clear hK K
              try simp only [Act.put, List.setIfInBounds_toArray, List.set_cons_zero, List.set_cons_succ]
              refine wpAnyH_take (i := 12) (oi := ⟨some 118, _, _, _, _, _⟩) (v := ?_) rfl (by kernel_rfl) (by kernel_rfl) (by kernel_rfl) (fun _ _ _ h => h) (Or.inl ⟨by rfl, ?_⟩) (by assumption) ?_
              rotate_left
              · intro w hSw; go_simp; first | done | with_reducible rfl
              try simp only [Act.put, List.setIfInBounds_toArray, List.set_cons_zero, List.set_cons_succ]
              refine wpAnyH_take (i := 13) (oi := ⟨some 119, _, _, _, _, _⟩) (v := ?_) rfl (by kernel_rfl) (by kernel_rfl) (by kernel_rfl) (fun _ _ _ h => h) (Or.inl ⟨by rfl, ?_⟩) (by assumption) ?_
              rotate_left
              · intro w hSw; go_simp; first | done | with_reducible rfl
              try simp only [Act.put, List.setIfInBounds_toArray, List.set_cons_zero, List.set_cons_succ]
              refine wpAnyH_take (i := 14) (oi := ⟨some 120, _, _, _, _, _⟩) (v := ?_) rfl (by kernel_rfl) (by kernel_rfl) (by kernel_rfl) (fun _ _ _ h => h) (Or.inl ⟨by rfl, ?_⟩) (by assumption) ?_
              rotate_left
              · intro w hSw; go_simp; first | done | with_reducible rfl
              try simp only [Act.put, List.setIfInBounds_toArray, List.set_cons_zero, List.set_cons_succ]
              refine wpAnyH_take (i := 15) (oi := ⟨some 121, _, _, _, _, _⟩) (v := ?_) rfl (by kernel_rfl) (by kernel_rfl) (by kernel_rfl) (fun _ _ _ h => h) (Or.inl ⟨by rfl, ?_⟩) (by assumption) ?_
              rotate_left
              · intro w hSw; go_simp; first | done | with_reducible rfl
              try simp only [Act.put, List.setIfInBounds_toArray, List.set_cons_zero, List.set_cons_succ]
              refine wpAnyH_take (i := 16) (oi := ⟨some 122, _, _, _, _, _⟩) (v := ?_) rfl (by kernel_rfl) (by kernel_rfl) (by kernel_rfl) (fun _ _ _ h => h) (Or.inl ⟨by rfl, ?_⟩) (by assumption) ?_
              rotate_left
              · intro w hSw; go_simp; first | done | with_reducible rfl
              try simp only [Act.put, List.setIfInBounds_toArray, List.set_cons_zero, List.set_cons_succ]
              refine wpAnyH_take (i := 17) (oi := ⟨some 123, _, _, _, _, _⟩) (v := ?_) rfl (by kernel_rfl) (by kernel_rfl) (by kernel_rfl) (fun _ _ _ h => h) (Or.inl ⟨by rfl, ?_⟩) (by assumption) ?_
              rotate_left
              · intro w hSw; go_simp; first | done | with_reducible rfl
              try simp only [Act.put, List.setIfInBounds_toArray, List.set_cons_zero, List.set_cons_succ]
              refine wpAnyH_take (i := 18) (oi := ⟨some 124, _, _, _, _, _⟩) (v := ?_) rfl (by kernel_rfl) (by kernel_rfl) (by kernel_rfl) (fun _ _ _ h => h) (Or.inl ⟨by rfl, ?_⟩) (by assumption) ?_
              rotate_left
              · intro w hSw; go_simp; first | done | with_reducible rfl
              try simp only [Act.put, List.setIfInBounds_toArray, List.set_cons_zero, List.set_cons_succ]
              refine wpAnyH_take (i := 19) (oi := ⟨some 125, _, _, _, _, _⟩) (v := _) rfl (by kernel_rfl) (by kernel_rfl) (by kernel_rfl) (fun _ _ _ h => h) (Or.inr ⟨by rfl, rfl⟩) (by assumption) ?_
              try simp only [Act.put, List.setIfInBounds_toArray, List.set_cons_zero, List.set_cons_succ]
              refine wpAnyH_take (i := 20) (oi := ⟨some 126, _, _, _, _, _⟩) (v := _) rfl (by kernel_rfl) (by kernel_rfl) (by kernel_rfl) (fun _ _ _ h => h) (Or.inr ⟨by rfl, rfl⟩) (by assumption) ?_
              try simp only [Act.put, List.setIfInBounds_toArray, List.set_cons_zero, List.set_cons_succ]
              refine wpAnyH_take (i := 21) (oi := ⟨some 127, _, _, _, _, _⟩) (v := _) rfl (by kernel_rfl) (by kernel_rfl) (by kernel_rfl) (fun _ _ _ h => h) (Or.inr ⟨by rfl, rfl⟩) (by assumption) ?_
              try simp only [Act.put, List.setIfInBounds_toArray, List.set_cons_zero, List.set_cons_succ]
              refine wpAnyH_take (i := 22) (oi := ⟨some 128, _, _, _, _, _⟩) (v := _) rfl (by kernel_rfl) (by kernel_rfl) (by kernel_rfl) (fun _ _ _ h => h) (Or.inr ⟨by rfl, rfl⟩) (by assumption) ?_
              try simp only [Act.put, List.setIfInBounds_toArray, List.set_cons_zero, List.set_cons_succ]
              refine wpAnyH_take (i := 23) (oi := ⟨some 129, _, _, _, _, _⟩) (v := ?_) rfl (by kernel_rfl) (by kernel_rfl) (by kernel_rfl) (fun _ _ _ h => h) (Or.inl ⟨by rfl, ?_⟩) (by assumption) ?_
              rotate_left
              · intro w hSw; go_simp; first | done | with_reducible rfl
              try simp only [Act.put, List.setIfInBounds_toArray, List.set_cons_zero, List.set_cons_succ]
              refine wpAnyH_take (i := 24) (oi := ⟨some 130, _, _, _, _, _⟩) (v := ?_) rfl (by kernel_rfl) (by kernel_rfl) (by kernel_rfl) (fun _ _ _ h => h) (Or.inl ⟨by rfl, ?_⟩) (by assumption) ?_
              rotate_left
              · intro w hSw; go_simp; first | done | with_reducible rfl
              try simp only [Act.put, List.setIfInBounds_toArray, List.set_cons_zero, List.set_cons_succ]
              refine wpAnyH_done (by kernel_rfl) ?_ _
              refine NoPanic.normal ?_
              clear hHeld x0 x1 x2
              go_wp2_with fail
              try go_big_round
              refine ⟨?rel, ?measure⟩
              case rel => exact ⟨j + 1, _, c1, X1, Y1, p1, q1', by omega, by go_num, by omega, EB.out, E8.out, NF.out, NX1.out, NY1.out, EL.out, by omega⟩
              case measure => simp [intOf]; omega
          · obtain rfl : j = k := by omega
            have hnn : ¬ (j : Int) < j := by omega
            have LK := Lib.hid (looks_true BO.out.t BO.out.s)
            unfold boolTo at LK
            obtain ⟨x0, x1, x2, _⟩ := K8.out.three
            go_wp2_with fail
            refine LK.out.mono ?_
            rintro r v1 ⟨rfl, hb⟩
            have BL1 := Lib.hid (BL.out.trans (hb.mono hNr))
            have hz9 := hb.size
            clear hb LK x0 x1 x2
            go_wp2_with fail
            refine (known_any _).mono ?_
            rintro r v ⟨rfl, hbk⟩
            have HBK := Lib.hid hbk
            clear hbk
            go_wp2_with fail
            go_ret
            exact ⟨rfl, BL1.out.trans (HBK.out.mono (by omega))⟩
end Go.Proofs.Ythabnffmlgppdaa.Ps
