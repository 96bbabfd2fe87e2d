/- Proves what the methods Cells and Copy of a table return and leave. Conditions: as each theorem names them. -/
import Derived.Test.YtlmljhnogmfcfaaGreatTh
import Derived.Test.YtlmljhnogmfcfaaGreatRg
import Derived.Laws.MakeOwn
import Derived.WalkMore
import Derived.BigQuiet
import Derived.Deep.QuietTactic
import Derived.BigRegion
import Derived.Deep.CutRange
import Derived.Deep.RegionWith
namespace Go.Proofs.YtlmljhnogmfcfaaGreat.Pa
open Go.RowKit Ap Mi Nw Rg Hm Tm Tn Ta Pm
open Hw (sum_any hindex_any)

def pc : List (Cell Key) → List Value
 | [] => []
 | o :: r => sV (ck o) :: .int .i64 (cn o : Int) :: pc r
theorem pc_len : ∀ c : List (Cell Key), (pc c).length = c.length * 2
 | [] => rfl
 | o :: r => by have := pc_len r; simp [pc, this]; omega
theorem pc_get : ∀ (c : List (Cell Key)) (i : Nat) (hi : i < c.length), (pc c)[i * 2]? = some (.string ⟨(ck c[i]).toArray⟩) ∧ (pc c)[i * 2 + 1]? = some (.int .i64 (cn c[i] : Int))
 | [], _, hi => by simp at hi
 | o :: r, 0, _ => ⟨rfl, rfl⟩
 | o :: r, i + 1, hi => by
  have := pc_get r i (by simpa using hi)
  rw [show (i + 1) * 2 = i * 2 + 1 + 1 from by omega]
  simp only [pc, List.getElem?_cons_succ, List.getElem_cons_succ]
  exact this
theorem pc_set : ∀ (c : List (Cell Key)) (i : Nat) (o : Cell Key), ((pc c).set (i * 2) (.string ⟨(ck o).toArray⟩)).set (i * 2 + 1) (.int .i64 (cn o : Int)) = pc (c.set i o)
 | [], _, _ => rfl
 | a :: r, 0, o => rfl
 | a :: r, i + 1, o => by
  have := pc_set r i o
  rw [show (i + 1) * 2 = i * 2 + 1 + 1 from by omega]
  simp only [pc, List.set_cons_succ]
  rw [this]
theorem pc_one : ∀ c : List (Cell Key), ∀ u ∈ pc c, u.oneCell' = true
 | [], _, h => by simp [pc] at h
 | o :: r, u, h => by
  simp only [pc, List.mem_cons] at h
  rcases h with rfl | rfl | h
  ·rfl
  ·rfl
  ·exact pc_one r u h
structure Pl (F : Nat → Prop) (w : World) (g : Nat) (seed m : Int) (c : List (Cell Key)) : Prop where
 has : ∃ A cap, Blk w g #[.int .u64 seed, .slice A c.length cap, .int .i64 m] 134 ∧ F g ∧ Mine 0 2 w A c.length cap (pc c) ∧ ∀ a, A = some a → F a.block ∧ a.block ≠ g
 kys : Kys c
 sd : U64 seed
 pw : Pw c.length
 lim : c.length ≤ 8388608
section
variable {F F' : Nat → Prop} {w w' : World} {g : Nat} {seed m : Int} {c : List (Cell Key)}
theorem Pl.lt (h : Pl F w g seed m c) : g < w.heap.size := by
 obtain ⟨A, cap, h1, _⟩ := h.has
 exact h1.lt
theorem Pl.inF (h : Pl F w g seed m c) : F g := by
 obtain ⟨A, cap, _, h1, _⟩ := h.has
 exact h1
theorem Pl.mono (h : Pl F w g seed m c) (hFG : ∀ j, j < w.heap.size → F j → F' j) : Pl F' w g seed m c := by
 have hl := h.lt
 obtain ⟨⟨A, cap, h1, h2, h3, h4⟩, h5, h6, h7, h8⟩ := h
 exact ⟨⟨A, cap, h1, hFG _ hl h2, h3, fun a ha => ⟨hFG _ (h3.base ha).2.1 (h4 a ha).1, (h4 a ha).2⟩⟩, h5, h6, h7, h8⟩
theorem Pl.tight (h : Pl F w g seed m c) : Pl (fun j => F j ∧ j < w.heap.size) w g seed m c := h.mono fun _ hj hf => ⟨hf, hj⟩
theorem Pl.only (h : Pl F w g seed m c) (ho : Only F' w w') (hn : ∀ j, F j → ¬ F' j) : Pl F w' g seed m c := by
 obtain ⟨⟨A, cap, h1, h2, h3, h4⟩, h5, h6, h7, h8⟩ := h
 exact ⟨⟨A, cap, h1.only ho (hn g h2), h2, h3.only ho (fun a ha => hn _ (h4 a ha).1), h4⟩, h5, h6, h7, h8⟩
theorem Pl.below {B : Nat} (h : Pl F w g seed m c) (hb : Below B w w') (hB : w.heap.size ≤ B) : Pl F w' g seed m c :=
 h.only (Only.of_below hb hB (fun _ => False)) (fun _ _ hf => hf)
theorem Pl.drewN (h : Pl F w g seed m c) (n : Nat) : Pl F (w.drewN n) g seed m c := h.only ((Only.refl (fun _ => False) w).drewN n) (fun _ _ hf => hf)
theorem Pl.slot (h : Pl F w g seed m c) {i : Nat} {o : Cell Key} (hi : c[i]? = some o) :
  ∃ gA oA cap, Blk w g #[.int .u64 seed, .slice (some ⟨gA, oA, none⟩) c.length cap, .int .i64 m] 134 ∧ gA < w.heap.size ∧ F gA ∧ gA ≠ g ∧
   w.cell? ⟨gA, oA + i * 2, none⟩ = some (.string ⟨(ck o).toArray⟩) ∧ w.cell? ⟨gA, oA + i * 2 + 1, none⟩ = some (.int .i64 (cn o : Int)) ∧ w.frozen? ⟨gA, oA + i * 2, none⟩ = false ∧ w.frozen? ⟨gA, oA + i * 2 + 1, none⟩ = false ∧
   Mine 0 2 w (some ⟨gA, oA, none⟩) c.length cap (pc c) := by
 obtain ⟨A, cap, h1, _, h3, h4⟩ := h.has
 obtain ⟨hl, rfl⟩ := List.getElem?_eq_some_iff.1 hi
 obtain ⟨e0, e1⟩ := pc_get c i hl
 obtain ⟨gA, oA, rfl, _, hgA⟩ := mine_place h3 (by rw [pc_len]; omega)
 have k0 := mine_cell h3 e0
 have k1 := mine_cell h3 e1
 rw [← Nat.add_assoc] at k1
 exact ⟨gA, oA, cap, h1, hgA, (h4 _ rfl).1, (h4 _ rfl).2, k0.1, k1.1, k0.2, k1.2, h3⟩
theorem get_of {c : List (Cell Key)} {i : Nat} (hi : i < c.length) : ∃ o, c[i]? = some o ∧ c.getD i none = o := ⟨c[i], List.getElem?_eq_getElem hi, getD_lt hi⟩

set_option maxRecDepth 100000 in
set_option maxHeartbeats 400000 in
theorem round_any (h : Pl F w g seed m c) (x : Int) (r : Nat) (hr : x % (c.length : Int) = (r : Int)) :
  Calls Tryz.prog 175 #[.pointer (some ⟨g, 0, none⟩), .int .i64 x] w fun e w' => e = .returned (.int .i64 (r : Int)) ∧ w = w' := by
 obtain ⟨A, cap, h1, _⟩ := h.has
 obtain ⟨c0, c1, c2, _⟩ := h1.three
 have hp := h.pw.pos
 have hl := h.lim
 have HM := Lib.hid (h.pw.mask x)
 have HR := Lib.hid hr
 clear h h1 hr
 go_enter Tryz.func175, Tryz.ntmps175
 go_wp2_with fail
 go_ret
 exact ⟨retI (HM.out.trans HR.out), rfl⟩
set_option maxRecDepth 100000 in
set_option maxHeartbeats 400000 in
theorem next_any (h : Pl F w g seed m c) {i : Nat} (hi : i < c.length) :
  Calls Tryz.prog 162 #[.pointer (some ⟨g, 0, none⟩), .int .i64 (i : Int)] w fun e w' => e = .returned (.int .i64 (pos c.length i 1 : Nat)) ∧ w = w' := by
 have hl := h.lim
 have HR := Lib.hid (round_any h ((i : Int) + 1) _ (next_mod hi))
 clear h
 go_enter Tryz.func162, Tryz.ntmps162
 go_wp2_with fail
 refine HR.out.mono ?_
 rintro e w1 ⟨rfl, rfl⟩
 go_wp2_with fail
 go_ret
 exact ⟨rfl, rfl⟩
set_option maxRecDepth 100000 in
set_option maxHeartbeats 400000 in
theorem pway_any (h : Pl F w g seed m c) {a b : Nat} (ha : a < c.length) (hb : b < c.length) :
  Calls Tryz.prog 163 #[.pointer (some ⟨g, 0, none⟩), .int .i64 (a : Int), .int .i64 (b : Int)] w fun e w' => e = .returned (.int .i64 (way c.length a b : Nat)) ∧ w = w' := by
 have hl := h.lim
 have HR := Lib.hid (round_any h ((b : Int) - (a : Int)) _ (back_mod ha hb))
 clear h
 go_enter Tryz.func163, Tryz.ntmps163
 go_wp2_with fail
 refine HR.out.mono ?_
 rintro e w1 ⟨rfl, rfl⟩
 go_wp2_with fail
 go_ret
 exact ⟨rfl, rfl⟩
set_option maxRecDepth 100000 in
set_option maxHeartbeats 400000 in
theorem usable_any (h : Pl F w g seed m c) :
  Calls Tryz.prog 121 #[.pointer (some ⟨g, 0, none⟩)] w fun e w' => e = .returned (.bool true) ∧ w = w' := by
 obtain ⟨A, cap, h1, _⟩ := h.has
 obtain ⟨c0, c1, c2, _⟩ := h1.three
 have hp := h.pw.pos
 have hp1 : (0 : Int) < (c.length : Int) := by omega
 have hl := h.lim
 clear h h1
 go_enter Tryz.func121, Tryz.ntmps121
 go_wp2_with fail
 go_ret
 exact ⟨retB (by simp), rfl⟩
set_option maxRecDepth 100000 in
set_option maxHeartbeats 400000 in
theorem phome_any (h : Pl F w g seed m c) (k : Key) (hk : k.length ≤ 1000000) :
  Calls Tryz.prog 164 #[.pointer (some ⟨g, 0, none⟩), .string ⟨k.toArray⟩] w fun e w' => e = .returned (.int .i64 (hom seed c.length k : Int)) ∧ Below w.heap.size w w' := by
 obtain ⟨A, cap, h1, _⟩ := h.has
 obtain ⟨c0, c1, c2, _⟩ := h1.three
 have hp := h.pw.pos
 have hl := h.lim
 have hsz : (⟨k.toArray⟩ : ByteArray).size ≤ maxLen := by show k.toArray.size ≤ maxLen; unfold maxLen; simp; omega
 have hsd := h.sd
 have HS : Hid (∀ W, Calls Tryz.prog 177 #[.int .u64 seed, .string ⟨k.toArray⟩] W fun e w' => e = .returned (.int .u64 (mixI (sumL seed k))) ∧ w' = W) := fun W => (sum_any seed ⟨k.toArray⟩ W hsd hsz).mono fun _ _ h => ⟨h.1, h.2.symm⟩
 have hI : idxI (mixI (sumL seed k)) (c.length : Int) = (hom seed c.length k : Int) := by rw [idxI, if_pos h.pw.isPow]; exact hom_cast seed hp k
 have HX : Hid (∀ W, Calls Tryz.prog 176 #[.int .u64 (mixI (sumL seed k)), .int .i64 (c.length : Int)] W fun e w' => e = .returned (.tuple #[.int .i64 (hom seed c.length k : Int), .int .i64 (idxE (c.length : Int))]) ∧ w' = W) := fun W => (hindex_any (mixI (sumL seed k)) (c.length : Int) W (mix_bd _) (by omega) (by omega)).mono fun _ _ h => ⟨by rw [h.1, hI], h.2.symm⟩
 obtain ⟨x, hx⟩ : ∃ x, x = mixI (sumL seed k) := ⟨_, rfl⟩
 obtain ⟨y, hy⟩ : ∃ y, y = hom seed c.length k := ⟨_, rfl⟩
 obtain ⟨z, hz⟩ : ∃ z, z = idxE (c.length : Int) := ⟨_, rfl⟩
 rw [← hx] at HS HX
 rw [← hy, ← hz] at HX
 rw [← hy]
 have hlt := hom_lt seed _ hp k
 rw [← hy] at hlt
 clear h h1 hx hy hz hsz hI hsd
 go_enter Tryz.func164, Tryz.ntmps164
 go_wp2_with fail
 go_quiet ((first | (go_at_call 177; exact Calls.quiet_of_same (HS.out _)) | (go_at_call 176; exact Calls.quiet_of_same (HX.out _))))
 go_wp2_with fail
 go_ret
 exact ⟨rfl, ((Only.of_below (Below.refl w.heap.size w) (Nat.le_refl _) (fun _ => False)).drewN _).below (fun _ hf => hf.elim) (Nat.le_refl _)⟩
end
end Go.Proofs.YtlmljhnogmfcfaaGreat.Pa
namespace Go.Proofs.YtlmljhnogmfcfaaGreat.Pb
open Go.RowKit Ap Mi Nw Rg Hm Tm Tn Ta Pm Pa
open Tf (okK okK_spec Gets)

section
variable {F F' : Nat → Prop} {w w' : World} {g : Nat} {seed m : Int} {c : List (Cell Key)}
set_option maxRecDepth 100000 in
set_option maxHeartbeats 1000000 in
theorem find_any (h : Pl F w g seed m c) (k : Key) (hk : 1 ≤ k.length) (hk2 : k.length ≤ 1000000) {J : Nat} (hJ : First c (stop k) (hom seed c.length k) J) :
  Calls Tryz.prog 168 #[.pointer (some ⟨g, 0, none⟩), .string ⟨k.toArray⟩] w fun e w' => e = .returned (.tuple #[.int .i64 (pos c.length (hom seed c.length k) J : Nat), .bool (isK k (c.getD (pos c.length (hom seed c.length k) J) none))]) ∧ Below w.heap.size w w' := by
 have hlg := h.lt
 have hlim := h.lim
 have HH := Lib.hid h
 have HM := Lib.hid (phome_any h k hk2)
 have hlt := hom_lt seed _ h.pw.pos k
 have HJ := Lib.hid hJ
 have hJl := hJ.lt
 have HK := Lib.hid hk
 have HY := Lib.hid h.kys
 obtain ⟨a, ha⟩ : ∃ a, a = hom seed c.length k := ⟨_, rfl⟩
 rw [← ha] at HM hlt HJ ⊢
 clear h hJ ha hk
 obtain ⟨N, hN⟩ : ∃ N, N = w.heap.size := ⟨_, rfl⟩
 rw [← hN]
 go_enter Tryz.func168, Tryz.ntmps168
 go_wp2_with fail
 refine HM.out.mono ?_
 rintro e w1 ⟨rfl, hb⟩
 have HB1 : Hid (Below N w w1) := by rw [hN]; exact hb
 have HN := Lib.hid hN
 clear hb hN HM
 go_wp2_with fail
 go_loopw [6] (fun i wr => ∃ j : Nat, j ≤ J ∧ i = .int .i64 (pos c.length a j : Nat) ∧ Below N w wr) (fun i _ => J - way c.length a (intOf i).toNat)
 case atStart => exact ⟨0, Nat.zero_le _, by rw [pos_zero hlt], HB1.out⟩
 case round =>
  obtain ⟨j, hj, rfl, hb⟩ := hrel
  have hjl : j < c.length := Nat.lt_of_le_of_lt hj hJl
  have hpl := pos_lt hlt hjl
  have HR := Lib.hid (HH.out.below hb (by have := HN.out; omega))
  have HB := Lib.hid hb
  have hzr := hb.size
  obtain ⟨q, hq⟩ : ∃ q, q = pos c.length a j := ⟨_, rfl⟩
  have HQ := Lib.hid hq
  rw [← hq] at hpl ⊢
  obtain ⟨o, hgo, hgd⟩ := get_of hpl
  have HG := Lib.hid hgo; have HD := Lib.hid hgd
  clear hb hq hgd
  obtain ⟨gA, oA, cap, hB, lA, _, _, e0, e1, _, _, _⟩ := HR.out.slot hgo
  obtain ⟨c0, c1, c2, _⟩ := hB.three
  have lg : g < wr.heap.size := hB.lt
  have i1 : (q : Int) < (c.length : Int) := by omega
  clear hB hgo
  cases o with
  | none =>
   have a0 : wr.cell? ⟨gA, oA + q * 2, none⟩ = some (.string ⟨#[]⟩) := e0
   have a1 : wr.cell? ⟨gA, oA + q * 2 + 1, none⟩ = some (.int .i64 0) := e1
   clear e0 e1
   go_wp2_with fail
   go_ret2
   have hjJ : j = J := by
    rcases Nat.lt_or_ge j J with h1 | h1
    ·have := HJ.out.miss j h1
     rw [← HQ.out, HD.out] at this
     cases this
    ·omega
   refine ⟨?_, HB.out.trans ((bnew wr _).mono (by have := HN.out; omega))⟩
   rw [← hjJ, ← HQ.out, HD.out]; rfl
  | some ky =>
   obtain ⟨k', x⟩ := ky
   have a0 : wr.cell? ⟨gA, oA + q * 2, none⟩ = some (.string ⟨k'.toArray⟩) := e0
   have a1 : wr.cell? ⟨gA, oA + q * 2 + 1, none⟩ = some (.int .i64 (x : Int)) := e1
   have hk1 := (HY.out k' x (List.mem_of_getElem? HG.out)).1
   have hbe : List.isEmpty k' = false := by cases k' with
    | nil => simp at hk1
    | cons _ _ => rfl
   clear e0 e1
   by_cases he : k' = k
   ·have hbk : (k' == k) = true := by simpa using he
    have HE := Lib.hid he
    clear he
    go_wp2_with fail
    go_ret2
    have hjJ : j = J := by
     rcases Nat.lt_or_ge j J with h1 | h1
     ·have := HJ.out.miss j h1
      rw [← HQ.out, HD.out] at this
      simp [stop, HE.out] at this
     ·omega
    refine ⟨?_, HB.out.trans ((bnew wr _).mono (by have := HN.out; omega))⟩
    rw [← hjJ, ← HQ.out, HD.out]; simp [isK, HE.out]
   ·have hbk : (k' == k) = false := by simpa using he
    have HE := Lib.hid he
    clear he
    have bA := bnew wr (.cells #[.string ⟨k'.toArray⟩, .int .i64 (x : Int)] 173)
    have HX := Lib.hid (next_any (HR.out.below bA (Nat.le_refl _)) hpl)
    have HBA := Lib.hid (HB.out.trans (bA.mono (by have := HN.out; omega)))
    have HI : Hid (j < J) := by
     rcases Nat.lt_or_ge j J with h1 | h1
     ·exact h1
     ·have e : j = J := by omega
      have := HJ.out.hit
      rw [← e, ← HQ.out, HD.out] at this
      simp [stop, HE.out] at this
    clear bA
    go_wp2_with fail
    refine HX.out.mono ?_
    rintro e w4 ⟨rfl, rfl⟩
    go_wp2_with fail
    go_roundw
    case rel => exact ⟨j + 1, HI.out, by rw [HQ.out, pos_succ hlt (by have := HI.out; omega)], HBA.out⟩
    case measure =>
     have e1 : way c.length a q = j := by rw [HQ.out]; exact way_pos hlt hjl
     have e2 : way c.length a (pos c.length q 1) = j + 1 := by rw [HQ.out, pos_succ hlt (by have := HI.out; omega)]; exact way_pos hlt (by have := HI.out; omega)
     have := HI.out
     simp [intOf, e1, e2]; omega
theorem find_there (h : Pl F w g seed m c) (t : Tab (hom seed c.length) c) (k : Key) (hk : 1 ≤ k.length) (hk2 : k.length ≤ 1000000) {i x : Nat} (hi : c[i]? = some (some (k, x))) :
  Calls Tryz.prog 168 #[.pointer (some ⟨g, 0, none⟩), .string ⟨k.toArray⟩] w fun e w' => e = .returned (.tuple #[.int .i64 (i : Int), .bool true]) ∧ Below w.heap.size w w' := by
 have h2 := find_any h k hk hk2 (look_there t hi)
 rw [pos_way (t.home k) (lt_of_some hi), List.getD_eq_getElem?_getD, hi] at h2
 simpa [isK] using h2
theorem find_gone (h : Pl F w g seed m c) (hf : none ∈ c) (k : Key) (hk : 1 ≤ k.length) (hk2 : k.length ≤ 1000000) (hno : ∀ y, some (k, y) ∉ c) :
  Calls Tryz.prog 168 #[.pointer (some ⟨g, 0, none⟩), .string ⟨k.toArray⟩] w fun e w' => e = .returned (.tuple #[.int .i64 (gap c (hom seed c.length k) : Int), .bool false]) ∧ Below w.heap.size w w' := by
 have hl := hom_lt seed _ h.pw.pos k
 have h1 := first_any (p := Option.isNone) hl ⟨none, hf, rfl⟩
 have h2 := find_any h k hk hk2 ((look_gone hl hno).2 h1)
 rw [To.find_gone hno] at h2
 exact h2
end
set_option maxHeartbeats 400000 in
theorem pok_any (k : Key) (w : World) (hk : k.length ≤ 140737488355328) :
  Calls Tryz.prog 135 #[.string ⟨k.toArray⟩] w fun e w' => e = .returned (.bool (okK k)) ∧ w = w' := by
 have HV : Hid (okK k = (decide (1 ≤ k.length) && decide (k.length ≤ 250))) := rfl
 by_cases h0 : 1 ≤ k.length
 ·have d0 : decide (1 ≤ k.length) = true := by simpa using h0
  go_enter Tryz.func135, Tryz.ntmps135
  go_wp2
  go_ret
  exact ⟨Nw.retB (by rw [HV.out, d0, Bool.eq_iff_iff]; simp; omega), rfl⟩
 ·have h2 : k.length < 1 := by omega
  go_enter Tryz.func135, Tryz.ntmps135
  go_wp2
  go_ret
  exact ⟨Nw.retB (by rw [HV.out, Bool.eq_iff_iff]; simp; omega), rfl⟩
structure Pt (F : Nat → Prop) (w : World) (g : Nat) (seed : Int) (c : List (Cell Key)) : Prop where
 pl : Pl F w g seed (cnt c : Int) c
 good : To.Good (hom seed) c
section
variable {F F' : Nat → Prop} {w w' : World} {g : Nat} {seed m : Int} {c : List (Cell Key)}
theorem Pt.lt (h : Pt F w g seed c) : g < w.heap.size := h.pl.lt
theorem Pt.mono (h : Pt F w g seed c) (hFG : ∀ j, j < w.heap.size → F j → F' j) : Pt F' w g seed c := ⟨h.pl.mono hFG, h.good⟩
theorem Pt.tight (h : Pt F w g seed c) : Pt (fun j => F j ∧ j < w.heap.size) w g seed c := ⟨h.pl.tight, h.good⟩
theorem Pt.only (h : Pt F w g seed c) (ho : Only F' w w') (hn : ∀ j, F j → ¬ F' j) : Pt F w' g seed c := ⟨h.pl.only ho hn, h.good⟩
theorem Pt.below {B : Nat} (h : Pt F w g seed c) (hb : Below B w w') (hB : w.heap.size ≤ B) : Pt F w' g seed c := ⟨h.pl.below hb hB, h.good⟩
theorem Pt.drewN (h : Pt F w g seed c) (n : Nat) : Pt F (w.drewN n) g seed c := ⟨h.pl.drewN n, h.good⟩
set_option maxRecDepth 100000 in
set_option maxHeartbeats 400000 in
theorem look_bad (h : Pl F w g seed m c) (k : Key) (hk : k.length ≤ 1000000) (n : Int) (hv : okK k = false ∨ n < 0) :
  Calls Tryz.prog 140 #[.pointer (some ⟨g, 0, none⟩), .string ⟨k.toArray⟩, .int .i64 n] w fun e w' => e = .returned (.tuple #[.int .i64 0, .bool false, .int .i64 2]) ∧ w = w' := by
 have HU := Lib.hid (usable_any h)
 have HV := Lib.hid (pok_any k w (by omega))
 clear h
 cases hv1 : okK k with
 | false =>
  rw [hv1] at HV
  clear hv hv1
  go_enter Tryz.func140, Tryz.ntmps140
  go_wp2_with fail
  refine HU.out.mono ?_
  rintro e w1 ⟨rfl, rfl⟩
  go_wp2_with fail
  refine HV.out.mono ?_
  rintro e w1 ⟨rfl, rfl⟩
  go_wp2_with fail
  exact bodyPost_ret (v := .tuple #[.int .i64 0, .bool false, .int .i64 2]) (by simp [results, Tryz.results140, go_sem]) rfl ⟨rfl, rfl⟩
 | true =>
  have hn1 : n < 0 := by rcases hv with h1 | h1; (rw [hv1] at h1; cases h1); exact h1
  rw [hv1] at HV
  clear hv hv1
  go_enter Tryz.func140, Tryz.ntmps140
  go_wp2_with fail
  refine HU.out.mono ?_
  rintro e w1 ⟨rfl, rfl⟩
  go_wp2_with fail
  refine HV.out.mono ?_
  rintro e w1 ⟨rfl, rfl⟩
  go_wp2_with fail
  exact bodyPost_ret (v := .tuple #[.int .i64 0, .bool false, .int .i64 2]) (by simp [results, Tryz.results140, go_sem]) rfl ⟨rfl, rfl⟩
set_option maxRecDepth 100000 in
set_option maxHeartbeats 400000 in
theorem look_good (h : Pl F w g seed m c) (k : Key) (n : Int) (hv : okK k = true) (hn : 0 ≤ n) {i : Nat} {b : Bool}
  (HF : Calls Tryz.prog 168 #[.pointer (some ⟨g, 0, none⟩), .string ⟨k.toArray⟩] w fun e w' => e = .returned (.tuple #[.int .i64 (i : Int), .bool b]) ∧ Below w.heap.size w w') :
  Calls Tryz.prog 140 #[.pointer (some ⟨g, 0, none⟩), .string ⟨k.toArray⟩, .int .i64 n] w fun e w' => e = .returned (.tuple #[.int .i64 (i : Int), .bool b, .int .i64 0]) ∧ Below w.heap.size w w' := by
 have hk := (okK_spec hv).2
 have HU := Lib.hid (usable_any h)
 have HV := Lib.hid (pok_any k w (by omega))
 have HX := Lib.hid HF
 rw [hv] at HV
 have hn' : ¬ n < 0 := by omega
 clear h HF hv
 go_enter Tryz.func140, Tryz.ntmps140
 go_wp2_with fail
 refine HU.out.mono ?_
 rintro e w1 ⟨rfl, rfl⟩
 go_wp2_with fail
 refine HV.out.mono ?_
 rintro e w1 ⟨rfl, rfl⟩
 go_wp2_with fail
 refine HX.out.mono ?_
 rintro e w1 ⟨rfl, hb⟩
 have HB := Lib.hid hb
 clear hb
 go_wp2_with fail
 exact bodyPost_ret (v := .tuple #[.int .i64 (i : Int), .bool b, .int .i64 0]) (by simp [results, Tryz.results140, go_sem]) rfl ⟨rfl, HB.out⟩
def At (c : List (Cell Key)) (k : Key) (n : Int) (r e : Int) : Prop :=
 ((okK k = false ∨ n < 0) ∧ r = 0 ∧ e = 2) ∨ (okK k = true ∧ 0 ≤ n ∧ (∃ i x : Nat, c[i]? = some (some (k, x)) ∧ r = (i : Int)) ∧ e = 0) ∨ (okK k = true ∧ 0 ≤ n ∧ (∀ y, some (k, y) ∉ c) ∧ e = 9)
set_option maxRecDepth 100000 in
set_option maxHeartbeats 400000 in
theorem at_any (h : Pt F w g seed c) (k : Key) (hk : k.length ≤ 1000000) (n : Int) :
  Calls Tryz.prog 128 #[.pointer (some ⟨g, 0, none⟩), .string ⟨k.toArray⟩, .int .i64 n] w fun q w' => ∃ r e, q = .returned (.tuple #[.int .i64 r, .int .i64 e]) ∧ At c k n r e ∧ Below w.heap.size w w' := by
 by_cases hv : okK k = false ∨ n < 0
 ·have HL := Lib.hid (look_bad h.pl k hk n hv)
  have HA : Hid (At c k n 0 2) := Or.inl ⟨hv, rfl, rfl⟩
  clear h hv
  go_enter Tryz.func128, Tryz.ntmps128
  go_wp2_with fail
  refine HL.out.mono ?_
  rintro e w1 ⟨rfl, rfl⟩
  go_wp2_with fail
  go_ret2
  exact ⟨_, _, rfl, HA.out, Below.refl _ _⟩
 ·obtain ⟨hv1, hn⟩ : okK k = true ∧ 0 ≤ n := by
   cases e : okK k with
   | false => exact absurd (Or.inl e) hv
   | true => exact ⟨rfl, by
     rcases Int.lt_or_le n 0 with h1 | h1
     ·exact absurd (Or.inr h1) hv
     ·exact h1⟩
  have hk1 := (okK_spec hv1).1
  by_cases hth : ∃ y, some (k, y) ∈ c
  ·obtain ⟨y, hy⟩ := hth
   obtain ⟨i, hi⟩ := List.mem_iff_getElem?.1 hy
   have HL := Lib.hid (look_good h.pl k n hv1 hn (find_there h.pl h.good.tab k hk1 hk hi))
   have HA : Hid (At c k n (i : Int) 0) := Or.inr (Or.inl ⟨hv1, hn, ⟨i, y, hi, rfl⟩, rfl⟩)
   clear h hv hv1 hi hy hn
   go_enter Tryz.func128, Tryz.ntmps128
   go_wp2_with fail
   refine HL.out.mono ?_
   rintro e w1 ⟨rfl, hb⟩
   have HB := Lib.hid hb
   clear hb
   go_wp2_with fail
   go_ret2
   exact ⟨_, _, rfl, HA.out, HB.out⟩
  ·have hno : ∀ y, some (k, y) ∉ c := fun y hy => hth ⟨y, hy⟩
   have HL := Lib.hid (look_good h.pl k n hv1 hn (find_gone h.pl h.good.free k hk1 hk hno))
   obtain ⟨z, hz⟩ : ∃ z, z = gap c (hom seed c.length k) := ⟨_, rfl⟩
   rw [← hz] at HL
   have HA : Hid (At c k n (z : Int) 9) := Or.inr (Or.inr ⟨hv1, hn, hno, rfl⟩)
   clear h hv hv1 hz hn hth hno
   go_enter Tryz.func128, Tryz.ntmps128
   go_wp2_with fail
   refine HL.out.mono ?_
   rintro e w1 ⟨rfl, hb⟩
   have HB := Lib.hid hb
   clear hb
   go_wp2_with fail
   go_ret2
   exact ⟨_, _, rfl, HA.out, HB.out⟩
set_option maxRecDepth 100000 in
set_option maxHeartbeats 400000 in
theorem get_any (h : Pt F w g seed c) (k : Key) (hk : k.length ≤ 1000000) {n e : Int} (hG : Gets c k n e) :
  Calls Tryz.prog 89 #[.pointer (some ⟨g, 0, none⟩), .string ⟨k.toArray⟩] w fun q w' => q = .returned (.tuple #[.int .i64 n, .int .i64 e]) ∧ Below w.heap.size w w' := by
 have HA := Lib.hid (at_any h k hk 0)
 have HG := Lib.hid hG
 have HH := Lib.hid h
 clear h hG
 go_enter Tryz.func89, Tryz.ntmps89
 go_wp2_with fail
 refine HA.out.mono ?_
 rintro q w1 ⟨r, f, rfl, hat, hb⟩
 have H1 := Lib.hid (HH.out.below hb (Nat.le_refl _))
 have HB := Lib.hid hb
 clear hb HA
 rcases hat with ⟨hv, rfl, rfl⟩ | ⟨hv, _, ⟨i, x, hi, rfl⟩, rfl⟩ | ⟨hv, _, hno, rfl⟩
 ·have HE : Hid (n = 0 ∧ e = 2) := by
   rcases HG.out with ⟨_, h1, h2⟩ | ⟨h1, _, _⟩ | ⟨h1, _, _⟩
   ·exact ⟨h1, h2⟩
   ·rcases hv with h2 | h2
    ·rw [h1] at h2; cases h2
    ·omega
   ·rcases hv with h2 | h2
    ·rw [h1] at h2; cases h2
    ·omega
  clear hv
  go_wp2_with fail
  go_ret2
  obtain ⟨h1, h2⟩ := HE.out
  subst h1; subst h2
  exact ⟨rfl, HB.out⟩
 ·have HE : Hid (n = (x : Int) ∧ e = 0) := by
   rcases HG.out with ⟨h1, _, _⟩ | ⟨_, ⟨i', x', h1, h2⟩, h3⟩ | ⟨_, h1, _⟩
   ·rw [hv] at h1; cases h1
   ·have := To.num_one HH.out.good (List.mem_of_getElem? hi) (List.mem_of_getElem? h1)
    exact ⟨by rw [h2, this], h3⟩
   ·exact absurd (List.mem_of_getElem? hi) (h1 x)
  obtain ⟨gA, oA, cap, hB, lA, _, _, e0, e1, _, _, _⟩ := H1.out.pl.slot hi
  obtain ⟨c0, c1, c2, _⟩ := hB.three
  have lg : g < w1.heap.size := hB.lt
  have i1 : (i : Int) < (c.length : Int) := by have := lt_of_some hi; omega
  have hlim := H1.out.pl.lim
  have a1 : w1.cell? ⟨gA, oA + i * 2 + 1, none⟩ = some (.int .i64 (x : Int)) := e1
  clear hB e0 e1 hi hv
  go_wp2_with fail
  go_ret2
  obtain ⟨h1, h2⟩ := HE.out
  subst h1; subst h2
  exact ⟨rfl, HB.out⟩
 ·have HE : Hid (n = 0 ∧ e = 9) := by
   rcases HG.out with ⟨h1, _, _⟩ | ⟨_, ⟨i', x', h1, h2⟩, h3⟩ | ⟨_, _, h1, h2⟩
   ·rw [hv] at h1; cases h1
   ·exact absurd (List.mem_of_getElem? h1) (hno x')
   ·exact ⟨h1, h2⟩
  clear hv hno
  go_wp2_with fail
  go_ret2
  obtain ⟨h1, h2⟩ := HE.out
  subst h1; subst h2
  exact ⟨rfl, HB.out⟩
end
end Go.Proofs.YtlmljhnogmfcfaaGreat.Pb
namespace Go.Proofs.YtlmljhnogmfcfaaGreat.Pc
open Go.RowKit Ap Mi Nw Rg Hm Tm Tn Ta Pm Pa Pb
open Tf (okK okK_spec Gets)
open Tg (Sets)
open Td (len_none)

theorem elC : Elm Tryz.prog 132 173 (.agg #[.string ⟨#[]⟩, .int .i64 0]) 2 where
 sl := Tryz.underlying132
 info := by kernel_rfl
 small := by
  have h : (Tryz.prog.info? 173).map (·.bytes) = some 24 := by kernel_rfl
  intro i hi; rw [hi] at h; simp at h; omega
 cells := rfl
 pos := by omega
def zC (n : Nat) : Array Value := madeCells #[.string ⟨#[]⟩, .int .i64 0] (n * 2)
theorem zC_list (n : Nat) : (zC n).toList = pc (List.replicate n none) := by
 unfold zC madeCells
 refine List.ext_getElem (by rw [pc_len]; simp) (fun i h1 h2 => ?_)
 have hi : i / 2 < n := by simp at h1; omega
 obtain ⟨e0, e1⟩ := pc_get (List.replicate n none) (i / 2) (by simpa using hi)
 have hg := List.getElem?_eq_getElem h2
 rcases Nat.mod_two_eq_zero_or_one i with hm | hm
 ·rw [show i / 2 * 2 = i by omega] at e0
  rw [hg] at e0
  rw [Option.some.inj e0]
  simp [hm, ck]
 ·rw [show i / 2 * 2 + 1 = i by omega] at e1
  rw [hg] at e1
  rw [Option.some.inj e1]
  simp [hm, cn]
theorem make_cells (n : Nat) (w : World) (h : n ≤ 100000000) : (Instr.makeSlice 132 (.int .i64 (n : Int)) (.int .i64 (n : Int))).run Tryz.prog w = .ok (.slice (some ⟨w.heap.size, 0, none⟩) n n) (w.alloc (.cells (zC n) 173)) := by
 have hi := elC.info
 rw [Option.map_eq_some_iff] at hi
 obtain ⟨i, hi1, hi2⟩ := hi
 simp only [Prod.mk.injEq] at hi2
 have hb := elC.small i hi1
 have hmul : i.bytes * n ≤ 1024 * 100000000 := Nat.mul_le_mul hb h
 have hmul' : (i.bytes : Int) * (n : Int) ≤ 281474976710656 := by
  have h0 : ((i.bytes * n : Nat) : Int) ≤ 281474976710656 := by omega
  rwa [Int.natCast_mul] at h0
 have hr := run_make (P := Tryz.prog) w 132 173 i (.agg #[.string ⟨#[]⟩, .int .i64 0]) elC.sl hi1 hi2.1 .i64 .i64 (n : Int) (n : Int) (by omega) (Int.le_refl _) hmul' (by omega)
 rw [Int.toNat_natCast, hi2.2] at hr
 exact hr
theorem laid_cells (n : Nat) (w : World) (h : n ≤ 100000000) : Mine w.heap.size 2 (w.alloc (.cells (zC n) 173)) (some ⟨w.heap.size, 0, none⟩) n n (pc (List.replicate n none)) :=
 mine_laid w (zC n) _ _ n (zC_list n) (by rw [pc_len]; simp) (by omega)
theorem kys_none (n : Nat) : Kys (List.replicate n none) := fun k x h => by have := List.eq_of_mem_replicate h; cases this
theorem kys_set {c : List (Cell Key)} (h : Kys c) (q : Nat) {o : Cell Key} (ho : ∀ k x, o = some (k, x) → 1 ≤ k.length ∧ k.length ≤ 250 ∧ x ≤ 9223372036854775807) : Kys (c.set q o) := fun k x hm => by
 rcases List.mem_or_eq_of_mem_set hm with h1 | h1
 ·exact h k x h1
 ·exact ho k x h1.symm
theorem pw8 : Pw 8 := ⟨3, by omega, rfl⟩
def newPost (w : World) (seed : Int) : Ending → World → Prop := fun e w' =>
 ∃ g, e = .returned (.pointer (some ⟨g, 0, none⟩)) ∧ Pt (fun j => w.heap.size ≤ j) w' g seed (List.replicate 8 none) ∧ Below w.heap.size w w'
set_option maxRecDepth 100000 in
set_option maxHeartbeats 1000000 in
theorem new_any (seed : Int) (w : World) (hs : U64 seed) : Calls Tryz.prog 42 #[.int .u64 seed] w (newPost w seed) := by
 have MK : ∀ W : World, (Instr.makeSlice 132 (.int .i64 8) (.int .i64 8)).run Tryz.prog W = .ok (.slice (some ⟨W.heap.size, 0, none⟩) 8 8) (W.alloc (.cells (zC 8) 173)) := fun W => make_cells 8 W (by omega)
 have HS := Lib.hid hs
 clear hs
 go_enter Tryz.func42, Tryz.ntmps42
 go_wp2_with fail
 go_ret
 have hA := Blk.new (w.alloc (.cells (zC 8) 173)) #[.int .u64 seed, .slice (some ⟨w.heap.size, 0, none⟩) 8 8, .int .i64 0] 134
 rw [show (w.alloc (.cells (zC 8) 173)).heap.size = w.heap.size + 1 by simp] at hA
 have hM := (laid_cells 8 w (by omega)).below (bnew (w.alloc (.cells (zC 8) 173)) (.cells #[.int .u64 seed, .slice (some ⟨w.heap.size, 0, none⟩) 8 8, .int .i64 0] 134)) (Nat.le_refl _)
 refine ⟨_, rfl, ⟨⟨⟨some ⟨w.heap.size, 0, none⟩, 8, ?_, by omega, ?_, fun a ha => ?_⟩, kys_none 8, HS.out, ?_, by rw [len_none]; omega⟩, To.good_start (hom_lt seed)⟩, ?_⟩
 ·rw [len_none, cnt_none]; exact hA
 ·rw [len_none]; exact hM.mono (Nat.zero_le _)
 ·injection ha with ha; subst ha; exact ⟨Nat.le_refl _, by show w.heap.size ≠ w.heap.size + 1; omega⟩
 ·rw [len_none]; exact pw8
 ·exact (bnew w _).alloc (by simp) _
section
variable {F F' : Nat → Prop} {w w' : World} {g : Nat} {seed m : Int} {c : List (Cell Key)}
theorem Pl.put (h : Pl F w g seed m c) {gA oA cap : Nat} (hB : Blk w g #[.int .u64 seed, .slice (some ⟨gA, oA, none⟩) c.length cap, .int .i64 m] 134) (hF : F gA) (hne : gA ≠ g) (hM : Mine 0 2 w (some ⟨gA, oA, none⟩) c.length cap (pc c))
  {q : Nat} (hq : q < c.length) {o : Cell Key} (ho : ∀ k x, o = some (k, x) → 1 ≤ k.length ∧ k.length ≤ 250 ∧ x ≤ 9223372036854775807) :
  Pl F ((w.setCell ⟨gA, oA + q * 2, none⟩ (.string ⟨(ck o).toArray⟩)).setCell ⟨gA, oA + q * 2 + 1, none⟩ (.int .i64 (cn o : Int))) g seed m (c.set q o) ∧
   Only F w ((w.setCell ⟨gA, oA + q * 2, none⟩ (.string ⟨(ck o).toArray⟩)).setCell ⟨gA, oA + q * 2 + 1, none⟩ (.int .i64 (cn o : Int))) := by
 have hO : Only (fun j => j = gA) w ((w.setCell ⟨gA, oA + q * 2, none⟩ (.string ⟨(ck o).toArray⟩)).setCell ⟨gA, oA + q * 2 + 1, none⟩ (.int .i64 (cn o : Int))) := ((Only.refl (fun j => j = gA) w).put (ad := ⟨gA, oA + q * 2, none⟩) rfl _).put (ad := ⟨gA, oA + q * 2 + 1, none⟩) rfl _
 refine ⟨⟨⟨some ⟨gA, oA, none⟩, cap, ?_, h.inF, ?_, fun a ha => ?_⟩, kys_set h.kys q ho, h.sd, by rw [List.length_set]; exact h.pw, by rw [List.length_set]; exact h.lim⟩, hO.mono fun j _ e => by rw [e]; exact hF⟩
 ·rw [List.length_set]; exact hB.only hO (fun e => hne e.symm)
 ·have h1 := (hM.store (q * 2) (by rw [pc_len]; omega) (.string ⟨(ck o).toArray⟩)).store (q * 2 + 1) (by rw [List.length_set, pc_len]; omega) (.int .i64 (cn o : Int))
  rw [pc_set, ← Nat.add_assoc] at h1
  rw [List.length_set]; exact h1
 ·injection ha with ha; subst ha; exact ⟨hF, hne⟩
theorem Pl.putN (h : Pl F w g seed m c) {gA oA cap : Nat} (hB : Blk w g #[.int .u64 seed, .slice (some ⟨gA, oA, none⟩) c.length cap, .int .i64 m] 134) (hF : F gA) (hne : gA ≠ g) (hM : Mine 0 2 w (some ⟨gA, oA, none⟩) c.length cap (pc c))
  {q : Nat} {k : Key} {y : Nat} (hq : c[q]? = some (some (k, y))) {x : Nat} (hx : x ≤ 9223372036854775807) :
  Pl F (w.setCell ⟨gA, oA + q * 2 + 1, none⟩ (.int .i64 (x : Int))) g seed m (c.set q (some (k, x))) ∧ Only F w (w.setCell ⟨gA, oA + q * 2 + 1, none⟩ (.int .i64 (x : Int))) := by
 have hO : Only (fun j => j = gA) w (w.setCell ⟨gA, oA + q * 2 + 1, none⟩ (.int .i64 (x : Int))) := (Only.refl (fun j => j = gA) w).put (ad := ⟨gA, oA + q * 2 + 1, none⟩) rfl _
 have hql := lt_of_some hq
 have hk := h.kys k y (List.mem_of_getElem? hq)
 refine ⟨⟨⟨some ⟨gA, oA, none⟩, cap, ?_, h.inF, ?_, fun a ha => ?_⟩, kys_set h.kys q (fun k' x' e => by cases e; exact ⟨hk.1, hk.2.1, hx⟩), h.sd, by rw [List.length_set]; exact h.pw, by rw [List.length_set]; exact h.lim⟩, hO.mono fun j _ e => by rw [e]; exact hF⟩
 ·rw [List.length_set]; exact hB.only hO (fun e => hne e.symm)
 ·have h1 := hM.store (q * 2 + 1) (by rw [pc_len]; omega) (.int .i64 (x : Int))
  have e : (pc c).set (q * 2) (.string ⟨(ck (some (k, x))).toArray⟩) = pc c := by
   obtain ⟨hl, e⟩ := List.getElem?_eq_some_iff.1 hq
   have := (pc_get c q hl).1
   rw [e] at this
   obtain ⟨h2, h3⟩ := List.getElem?_eq_some_iff.1 this
   show (pc c).set (q * 2) (.string ⟨k.toArray⟩) = pc c
   rw [← show (pc c)[q * 2] = .string ⟨k.toArray⟩ from h3, List.set_getElem_self]
  have h2 := pc_set c q (some (k, x))
  rw [e] at h2
  rw [show (pc c).set (q * 2 + 1) (.int .i64 (x : Int)) = pc (c.set q (some (k, x))) from h2, ← Nat.add_assoc] at h1
  rw [List.length_set]; exact h1
 ·injection ha with ha; subst ha; exact ⟨hF, hne⟩
def addPost (F : Nat → Prop) (w : World) (g : Nat) (seed m : Int) (c' : List (Cell Key)) : Ending → World → Prop := fun q w' =>
 q = .returned (.tuple #[]) ∧ Pl F w' g seed m c' ∧ Only F w w'
set_option maxRecDepth 100000 in
set_option maxHeartbeats 1000000 in
theorem add_any (h : Pl F w g seed m c) (hf : none ∈ c) (k : Key) (hk : 1 ≤ k.length) (hk2 : k.length ≤ 250) (hno : ∀ y, some (k, y) ∉ c) (x : Nat) (hx : x ≤ 9223372036854775807) :
  Calls Tryz.prog 141 #[.pointer (some ⟨g, 0, none⟩), .agg #[.string ⟨k.toArray⟩, .int .i64 (x : Int)]] w (addPost F w g seed m (putC (hom seed c.length) c k x)) := by
 unfold addPost putC
 obtain ⟨w0, hw0⟩ : ∃ w0, w0 = w.alloc (.cells #[.string ⟨k.toArray⟩, .int .i64 (x : Int)] 173) := ⟨_, rfl⟩
 obtain ⟨b2, hb2⟩ : ∃ b2, b2 = w.heap.size := ⟨_, rfl⟩
 have b0 : Below w.heap.size w w0 := by rw [hw0]; exact bnew _ _
 have P2 : Hid (Blk w0 b2 #[.string ⟨k.toArray⟩, .int .i64 (x : Int)] 173) := by show Blk _ _ _ _; rw [hw0, hb2]; exact Blk.new _ _ _
 have h0 := h.below b0 (Nat.le_refl _)
 have HF := Lib.hid (find_gone h0 hf k hk (by omega) hno)
 obtain ⟨g1, _, _⟩ := gap_spec (hom_lt seed _ h.pw.pos k) hf
 obtain ⟨q, hq⟩ : ∃ q, q = gap c (hom seed c.length k) := ⟨_, rfl⟩
 rw [← hq] at HF g1 ⊢
 have H0 := Lib.hid h0
 have HB := Lib.hid b0
 have l2 : b2 < w0.heap.size := P2.out.lt
 have lg : g < b2 := by rw [hb2]; exact h.lt
 have hlim := h.lim
 obtain ⟨y0, y1, _, _⟩ := P2.out.two
 clear h h0 b0 hq hf hno
 go_enter Tryz.func141, Tryz.ntmps141
 go_wp2_with fail
 rw [← hw0, ← hb2]
 have HB2 := Lib.hid hb2
 rw [← hb2] at HB
 clear hw0 hb2
 refine HF.out.mono ?_
 rintro e w1 ⟨rfl, hb⟩
 have H1 := Lib.hid (H0.out.below hb (Nat.le_refl _))
 have P3 := Lib.hid (P2.out.below hb l2)
 have HB1 := Lib.hid (HB.out.trans (hb.mono (by omega)))
 clear hb y0 y1 HF H0
 obtain ⟨y0, y1, _, _⟩ := P3.out.two
 obtain ⟨o, ho, _⟩ := get_of g1
 obtain ⟨gA, oA, cap, hB, lA, hF, hne, e0, e1, f0, f1, hM⟩ := H1.out.slot ho
 obtain ⟨c0, c1, c2, _⟩ := hB.three
 have l3 : b2 < w1.heap.size := P3.out.lt
 have i1 : (q : Int) < (c.length : Int) := by omega
 have HP := Lib.hid (Pl.put H1.out hB hF hne hM g1 (o := some (k, x)) (fun k' x' e => by cases e; exact ⟨hk, hk2, hx⟩))
 clear hB hM hF ho
 go_wp2_with fail
 go_region
 go_wp2_with fail
 go_end0
 refine ⟨rfl, HP.out.1.only ((Only.refl (fun _ => False) _).drew) (fun _ _ hf => hf), ?_⟩
 have hb1 := HB1.out
 rw [HB2.out] at hb1
 exact ((Only.of_below hb1 (Nat.le_refl _) F).trans (HP.out.2.mono fun j _ hf => Or.inl hf)).drew
end
end Go.Proofs.YtlmljhnogmfcfaaGreat.Pc
namespace Go.Proofs.YtlmljhnogmfcfaaGreat.Pd
open Go.RowKit Ap Mi Nw Rg Hm Tm Tn Ta Pm Pa Pb Pc
open Te (fill_snoc fill_at)
open Th (hole_go hole_stop)
open Td (len_none)

theorem fill_no {h0 h : Key → Nat} {c : List (Cell Key)} (t : Tab h0 c) {n : Nat} (hh : ∀ k, h k < n) (hn : cnt c ≤ n) {K : Nat} {k : Key} {x : Nat} (hK : c[K]? = some (some (k, x))) : ∀ y, some (k, y) ∉ fillC h (c.take K) (List.replicate n none) := fun y hm => by
 have hap : Apart (c.take K) := (tab_apart t).sublist (List.take_sublist _ _)
 have hcl : cnt (c.take K) ≤ cnt c := (List.take_sublist _ _).countP_le
 obtain ⟨_, _, _, f4⟩ := fill_tab (c.take K) _ (tab_empty hh) hap (fun k x y _ hm => by have := List.eq_of_mem_replicate hm; cases this) (by rw [cnt_none, len_none]; omega)
 rcases (f4 _).1 hm with h1 | h1
 ·obtain ⟨i, hi⟩ := List.mem_iff_getElem?.1 h1
  have hil := lt_of_some hi
  rw [List.length_take] at hil
  rw [List.getElem?_take, if_pos (by omega)] at hi
  have := t.one i K k y x hi hK
  omega
 ·have := List.eq_of_mem_replicate h1; cases this
theorem old_slot {w : World} {A : Option Addr} {n cap : Nat} {c : List (Cell Key)} (h : Rs w 2 A n cap (pc c)) {i : Nat} {o : Cell Key} (hi : c[i]? = some o) :
  ∃ b of, A = some ⟨b, of, none⟩ ∧ b < w.heap.size ∧ w.cell? ⟨b, of + i * 2, none⟩ = some (.string ⟨(ck o).toArray⟩) ∧ w.cell? ⟨b, of + i * 2 + 1, none⟩ = some (.int .i64 (cn o : Int)) := by
 obtain ⟨hl, rfl⟩ := List.getElem?_eq_some_iff.1 hi
 obtain ⟨e0, e1⟩ := pc_get c i hl
 obtain ⟨b, of, rfl, hb, k0⟩ := h.rd.at_ e0
 obtain ⟨b', of', e, _, k1⟩ := h.rd.at_ e1
 injection e with e
 injection e with e2 e3
 subst e2; subst e3
 rw [← Nat.add_assoc] at k1
 exact ⟨b, of, rfl, hb, k0, k1⟩
section
variable {F F' : Nat → Prop} {w w' : World} {g : Nat} {seed m : Int} {c : List (Cell Key)}
def sizePost (F : Nat → Prop) (w : World) (g : Nat) (seed m : Int) (c' : List (Cell Key)) : Ending → World → Prop := fun q w' =>
 q = .returned (.tuple #[]) ∧ Pl (More F w) w' g seed m c' ∧ Only F w w'
set_option maxRecDepth 100000 in
set_option maxHeartbeats 1000000 in
theorem resize_any {h0 : Key → Nat} (h : Pl F w g seed m c) (t : Tab h0 c) (n : Nat) (hp : Pw n) (hn : n ≤ 8388608) (hcn : cnt c ≤ n) :
  Calls Tryz.prog 132 #[.pointer (some ⟨g, 0, none⟩), .int .i64 (n : Int)] w (sizePost F w g seed m (sizeC (hom seed n) n c)) := by
 unfold sizePost sizeC
 have MK : ∀ W : World, (Instr.makeSlice 132 (.int .i64 (n : Int)) (.int .i64 (n : Int))).run Tryz.prog W = .ok (.slice (some ⟨W.heap.size, 0, none⟩) n n) (W.alloc (.cells (zC n) 173)) := fun W => make_cells n W (by omega)
 obtain ⟨A, cap, hB, hF, hM, hA⟩ := h.has
 obtain ⟨c0, c1, c2, f0, f1, f2⟩ := hB.three
 have lg := h.lt
 have hpn := hp.pos
 have hlim := h.lim
 have HY := Lib.hid h.kys; have HT := Lib.hid t; have HSD := Lib.hid h.sd; have HPW := Lib.hid hp; have HF := Lib.hid hF
 obtain ⟨N, hN⟩ : ∃ N, N = w.heap.size := ⟨_, rfl⟩
 obtain ⟨v0, hv0⟩ : ∃ v0, v0 = w.setCell ⟨g, 1, none⟩ (.slice (some ⟨N, 0, none⟩) n n) := ⟨_, rfl⟩
 obtain ⟨v1, hv1⟩ : ∃ v1, v1 = v0.alloc (.cells (zC n) 173) := ⟨_, rfl⟩
 have hz0 : v0.heap.size = N := by rw [hv0, hN]; simp
 have bA : Below v0.heap.size v0 v1 := by rw [hv1]; exact bnew v0 _
 have o0 : Only (fun j => j = g) w v0 := by rw [hv0]; exact (Only.refl (fun j => j = g) w).put (ad := ⟨g, 1, none⟩) rfl _
 have oA : Only (fun j => j = g) w v1 := o0.trans (Only.of_below bA (Nat.le_refl _) _)
 have hB0 : Blk v0 g #[.int .u64 seed, .slice (some ⟨N, 0, none⟩) n n, .int .i64 m] 134 := by rw [hv0]; exact hB.set 1 _
 have P0 : Pl (fun j => j = g ∨ N ≤ j) v1 g seed m (List.replicate n none) := by
  refine ⟨⟨some ⟨N, 0, none⟩, n, ?_, Or.inl rfl, ?_, fun a ha => ?_⟩, kys_none n, h.sd, by rw [len_none]; exact hp, by rw [len_none]; omega⟩
  ·rw [len_none]; exact hB0.below bA hB0.lt
  ·have := laid_cells n v0 (by omega)
   rw [← hv1, hz0] at this
   rw [len_none]; exact this.mono (Nat.zero_le _)
  ·injection ha with ha; subst ha; exact ⟨Or.inr (Nat.le_refl _), by show N ≠ g; omega⟩
 have HP0 := Lib.hid P0
 have HR : Hid (Rs v1 2 A c.length cap (pc c)) := Rs.mine (hM.only oA (fun a ha e => (hA a ha).2 e))
 have HAn : Hid (∀ a, A = some a → a.block ≠ g ∧ a.block < N) := fun a ha => ⟨(hA a ha).2, by rw [hN]; exact (hM.base ha).2.1⟩
 have HO1 : Hid (Only (fun j => j = g ∨ N ≤ j) w v1) := oA.mono fun _ _ e => Or.inl e
 have hz1 : N + 1 ≤ v1.heap.size := by rw [hv1]; simp; omega
 have HN := Lib.hid hN
 clear h t hp hF hM hA hB bA oA o0 P0 hB0 hz0
 go_enter Tryz.func132, Tryz.ntmps132
 go_upto_region 2 with (fail)
 rw [← hN]
 rw [← hv0, ← hv1]
 clear hN hv0 hv1 c0 c1 c2 f0 f1 f2
 go_wp2_with fail
 go_loopw [18] (fun i wr => ∃ K : Nat, K ≤ c.length ∧ i = .int .i64 (K : Int) ∧ Pl (fun j => j = g ∨ N ≤ j) wr g seed m (fillC (hom seed n) (c.take K) (List.replicate n none)) ∧ Only (fun j => j = g ∨ N ≤ j) w wr ∧ Only (fun j => j = g ∨ N ≤ j) v1 wr) (fun i _ => c.length - (intOf i).toNat)
 case atStart => exact ⟨0, Nat.zero_le _, rfl, HP0.out, HO1.out, Only.refl _ _⟩
 case round =>
  obtain ⟨K, hK, rfl, hp, ho, ho1⟩ := hrel
  have HP := Lib.hid hp; have HO := Lib.hid ho
  have HRr := Lib.hid (HR.out.only ho1 (fun a ha e => by have := HAn.out a ha; rcases e with e | e <;> omega))
  have HV := Lib.hid ho1
  have hzr := ho1.size
  clear hp ho ho1
  by_cases hlt : K < c.length
  ·have i1 : (K : Int) < (c.length : Int) := by omega
   obtain ⟨o, hgo, _⟩ := get_of hlt
   have HG := Lib.hid hgo
   obtain ⟨b, of, rfl, lb, e0, e1⟩ := old_slot HRr.out hgo
   have hcK : c[K] = o := by rw [List.getElem?_eq_getElem hlt] at hgo; exact Option.some.inj hgo
   have HTK : Hid (c.take (K + 1) = c.take K ++ [o]) := by show _ = _; rw [List.take_succ_eq_append_getElem hlt, hcK]
   clear hgo
   cases o with
   | none =>
    have a0 : wr.cell? ⟨b, of + K * 2, none⟩ = some (.string ⟨#[]⟩) := e0
    have a1 : wr.cell? ⟨b, of + K * 2 + 1, none⟩ = some (.int .i64 0) := e1
    have HPn := Lib.hid (HP.out.below (bnew wr (.cells #[.string ⟨#[]⟩, .int .i64 0] 173)) (Nat.le_refl _))
    clear e0 e1 hcK
    go_wp2_with fail
    go_roundw
    case rel => exact ⟨K + 1, by omega, by go_num, by rw [HTK.out, fill_snoc]; exact HPn.out, HO.out.alloc _, HV.out.alloc _⟩
    case measure => simp [intOf]; omega
   | some ky =>
    obtain ⟨k', x⟩ := ky
    have a0 : wr.cell? ⟨b, of + K * 2, none⟩ = some (.string ⟨k'.toArray⟩) := e0
    have a1 : wr.cell? ⟨b, of + K * 2 + 1, none⟩ = some (.int .i64 (x : Int)) := e1
    obtain ⟨hk1, hk2, hx⟩ := HY.out k' x (List.mem_of_getElem? HG.out)
    have hbe : List.isEmpty k' = false := by cases k' with
     | nil => simp at hk1
     | cons _ _ => rfl
    have HPn := Lib.hid (HP.out.below (bnew wr (.cells #[.string ⟨k'.toArray⟩, .int .i64 (x : Int)] 173)) (Nat.le_refl _))
    obtain ⟨q1, q2, q3⟩ := fill_at HT.out (hom_lt seed n hpn) hcn hlt
    have HAD := Lib.hid (add_any HPn.out (q3 _ hcK) k' hk1 hk2 (fill_no HT.out (hom_lt seed n hpn) hcn HG.out) x hx)
    rw [q1] at HAD
    clear e0 e1 hcK q1 q2 q3
    go_wp2_with fail
    refine HAD.out.mono ?_
    rintro e w4 ⟨rfl, hp4, ho4⟩
    have HP4 := Lib.hid hp4; have HO4 := Lib.hid ho4
    clear hp4 ho4
    go_wp2_with fail
    go_roundw
    case rel => exact ⟨K + 1, by omega, by go_num, by rw [HTK.out, fill_snoc]; exact HP4.out, (HO.out.alloc _).trans (HO4.out.mono fun _ _ hf => Or.inl hf), (HV.out.alloc _).trans (HO4.out.mono fun _ _ hf => Or.inl hf)⟩
    case measure => simp [intOf]; omega
  ·obtain rfl : K = c.length := by omega
   have hnn : ¬ (c.length : Int) < c.length := by omega
   rw [List.take_length] at HP
   go_wp2_with fail
   go_end0
   refine ⟨rfl, HP.out.mono fun j _ hf => ?_, HO.out.mono fun j hj hf => ?_⟩
   ·rcases hf with rfl | hf
    ·exact Or.inl HF.out
    ·exact Or.inr (by have := HN.out; omega)
   ·rcases hf with rfl | hf
    ·exact HF.out
    ·have := HN.out; omega
end
end Go.Proofs.YtlmljhnogmfcfaaGreat.Pd
namespace Go.Proofs.YtlmljhnogmfcfaaGreat.Pe
open Go.RowKit Ap Mi Nw Rg Hm Tm Tn Ta Pm Pa Pb Pc Pd
open Th (hole_go hole_stop)

section
variable {F F' : Nat → Prop} {w w' : World} {g : Nat} {seed m : Int} {c : List (Cell Key)}
def emptyPost (F : Nat → Prop) (w : World) (g : Nat) (seed m : Int) (c' : List (Cell Key)) : Ending → World → Prop := fun q w' =>
 q = .returned (.tuple #[]) ∧ Pl F w' g seed m c' ∧ Only F w w'
set_option maxRecDepth 100000 in
set_option maxHeartbeats 1000000 in
theorem empty_any (h : Pl F w g seed m c) (t : Tab (hom seed c.length) c) (hf : none ∈ c) {i : Nat} {k : Key} {x : Nat} (hi : c[i]? = some (some (k, x))) :
  Calls Tryz.prog 131 #[.pointer (some ⟨g, 0, none⟩), .int .i64 (i : Int)] w (emptyPost F w g seed m (delC (hom seed c.length) c i)) := by
 unfold emptyPost
 obtain ⟨z, hz⟩ := List.mem_iff_getElem?.1 hf
 have hil := lt_of_some hi
 have hzl := lt_of_some hz
 have hlim := h.lim
 have hne : i ≠ z := fun e => by rw [e, hz] at hi; cases hi
 have h2 : 2 ≤ c.length := by omega
 have HOL := Lib.hid (hole_start t hi hz h2)
 have HW0 : Hid (way c.length (pos c.length i 1) z < c.length) := way_lt (pos_lt hil (by omega)) hzl
 have HNX := Lib.hid (next_any h hil)
 have HH := Lib.hid h
 have HD0 : Hid (delC (hom seed c.length) c i = holeC (hom seed c.length) c.length c i (pos c.length i 1)) := rfl
 obtain ⟨D, hD⟩ : ∃ D, D = delC (hom seed c.length) c i := ⟨_, rfl⟩
 rw [← hD] at HD0 ⊢
 obtain ⟨L, hL⟩ : ∃ L, L = c.length := ⟨_, rfl⟩
 rw [← hL] at HOL HW0 HD0 HNX hil h2 hlim
 have HLL := Lib.hid hL.symm
 clear h t hf hi hz hD hL hne hzl
 go_enter Tryz.func131, Tryz.ntmps131
 go_wp2_with fail
 go_step3
 go_wp2_with fail
 go_step3
 go_wp2_with fail
 refine HNX.out.mono ?_
 rintro e w1 ⟨rfl, rfl⟩
 go_wp2_with fail
 go_loopw [1, 4] (fun hq ii wr => ∃ (f hx ix : Nat) (d : List (Cell Key)), hq = .int .i64 (hx : Int) ∧ ii = .int .i64 (ix : Int) ∧ Hid (Hole (hom seed L) d hx ix z) ∧ Hid (way L ix z < f) ∧ Hid (D = holeC (hom seed L) f d hx ix) ∧ Hid (d.length = L) ∧ Pl F wr g seed m d ∧ Only F w wr) (fun _ ii _ => way L (intOf ii).toNat z)
 case atStart => exact ⟨L, i, pos L i 1, c, rfl, rfl, HOL, HW0, HD0, HLL, HH.out, Only.refl _ _⟩
 case round =>
  obtain ⟨f, hx, ix, d, rfl, rfl, HL, HW, HD, HLen, hp, ho⟩ := hrel
  have HP := Lib.hid hp; have HO := Lib.hid ho
  have hzr := ho.size
  have hixd : ix < d.length := HL.out.i_lt
  have hhd : hx < d.length := HL.out.q_lt
  have hdl : d.length ≤ 8388608 := hp.lim
  clear hp ho
  obtain ⟨o, hgo, _⟩ := get_of hixd
  have HG := Lib.hid hgo
  obtain ⟨gA, oA, cap, hB, lA, hFA, hne, e0, e1, _, _, hM⟩ := HP.out.slot hgo
  obtain ⟨p0, p1⟩ := pc_get d hx hhd
  have k0 := mine_cell hM p0
  have k1 := mine_cell hM p1
  rw [← Nat.add_assoc] at k1
  obtain ⟨v0, vf0⟩ := k0
  obtain ⟨v1, vf1⟩ := k1
  have HBk := Lib.hid hB; have HMi := Lib.hid hM; have HFA := Lib.hid hFA
  obtain ⟨c0, c1, c2, _⟩ := hB.three
  have lg : g < wr.heap.size := hB.lt
  have i1 : (ix : Int) < (d.length : Int) := by omega
  clear hB hgo hM hFA p0 p1
  cases o with
  | none =>
   have a0 : wr.cell? ⟨gA, oA + ix * 2, none⟩ = some (.string ⟨#[]⟩) := e0
   have a1 : wr.cell? ⟨gA, oA + ix * 2 + 1, none⟩ = some (.int .i64 0) := e1
   have HW1 := Lib.hid (Pl.put HP.out HBk.out HFA.out hne HMi.out hhd (o := none) (fun _ _ e => by cases e))
   have HDD : Hid (D = d.set hx none) := by show _ = _; rw [HD.out]; exact hole_stop HW.out HG.out
   clear e0 e1
   go_wp2_with fail
   rw [Exit.noGoto_normal]
   go_end0
   rw [HDD.out]
   exact ⟨rfl, HW1.out.1.below (bnew _ _) (Nat.le_refl _), (HO.out.trans (HW1.out.2.mono fun _ _ hf => Or.inl hf)).alloc _⟩
  | some ky =>
   obtain ⟨k', x'⟩ := ky
   have a0 : wr.cell? ⟨gA, oA + ix * 2, none⟩ = some (.string ⟨k'.toArray⟩) := e0
   have a1 : wr.cell? ⟨gA, oA + ix * 2 + 1, none⟩ = some (.int .i64 (x' : Int)) := e1
   obtain ⟨hk1, hk2, hx1⟩ := HP.out.kys k' x' (List.mem_of_getElem? HG.out)
   have hbe : List.isEmpty k' = false := by cases k' with
    | nil => simp at hk1
    | cons _ _ => rfl
   have bA := bnew wr (.cells #[.string ⟨k'.toArray⟩, .int .i64 (x' : Int)] 173)
   have HPA := Lib.hid (HP.out.below bA (Nat.le_refl _))
   have HBA := Lib.hid (HBk.out.below bA lg); have HMA := Lib.hid (HMi.out.below bA (Nat.le_refl _))
   have HOA := Lib.hid (HO.out.alloc (.cells #[.string ⟨k'.toArray⟩, .int .i64 (x' : Int)] 173))
   obtain ⟨f', hf1, hf2, hf3, hgm, hgs⟩ := hole_go HL.out (by rw [HLen.out]; exact HW.out) HG.out
   have Hf1 := Lib.hid hf1; have Hf2 := Lib.hid hf2; have Hf3 := Lib.hid hf3; have Hgm := Lib.hid hgm; have Hgs := Lib.hid hgs
   have hhm := hom_lt seed d.length (by omega) k'
   have HHM := Lib.hid (phome_any HPA.out k' (by omega))
   have HNE := Lib.hid HL.out.ne
   obtain ⟨a, ha⟩ : ∃ a, a = hom seed d.length k' := ⟨_, rfl⟩
   have HAE : Hid (a = hom seed L k') := by show _ = _; rw [ha, HLen.out]
   rw [← ha] at hhm HHM
   have HME := Lib.hid (met hhm hhd hixd HL.out.ne)
   clear e0 e1 bA hf1 hf2 hf3 hgm hgs ha
   go_wp2_with fail
   refine HHM.out.mono ?_
   rintro e w4 ⟨rfl, hb4⟩
   have HP4 := Lib.hid (HPA.out.below hb4 (Nat.le_refl _))
   have HB4 := Lib.hid (HBA.out.below hb4 (by simp; omega)); have HM4 := Lib.hid (HMA.out.below hb4 (Nat.le_refl _))
   have HC4 : Hid (Blk w4 wr.heap.size #[.string ⟨k'.toArray⟩, .int .i64 (x' : Int)] 173) := (Blk.new wr _ _).below hb4 (by simp)
   have HO4 := Lib.hid (HOA.out.trans (Only.of_below hb4 (Nat.le_refl _) _))
   have lz4 : wr.heap.size < w4.heap.size := HC4.out.lt
   clear hb4 c0 c1 c2 a0 a1 v0 v1 vf0 vf1
   have HWY := Lib.hid (pway_any HP4.out hhm hixd)
   have HWQ := Lib.hid (pway_any HP4.out hhd hixd)
   obtain ⟨s1, hs1⟩ : ∃ s, s = way d.length a ix := ⟨_, rfl⟩
   obtain ⟨s2, hs2⟩ : ∃ s, s = way d.length hx ix := ⟨_, rfl⟩
   rw [← hs1] at HWY HME
   rw [← hs2] at HWQ HME
   have HS1 := Lib.hid hs1
   clear hs1 hs2
   go_wp2_with fail
   refine HWY.out.mono ?_
   rintro e w5 ⟨rfl, rfl⟩
   go_wp2_with fail
   refine HWQ.out.mono ?_
   rintro e w5 ⟨rfl, rfl⟩
   by_cases hcmp : s2 ≤ s1
   ·have hcI : (s2 : Int) ≤ (s1 : Int) := by omega
    have HC : Hid (way d.length (hom seed L k') hx < way d.length (hom seed L k') ix) := by show _ < _; rw [← HAE.out, ← HS1.out]; exact HME.out.1 hcmp
    obtain ⟨c0, c1, c2, _⟩ := HB4.out.three
    obtain ⟨t0, t1, _, _⟩ := HC4.out.two
    obtain ⟨p0, p1⟩ := pc_get d hx hhd
    have k1 := mine_cell HM4.out p1
    rw [← Nat.add_assoc] at k1
    obtain ⟨v0, vf0⟩ := mine_cell HM4.out p0
    obtain ⟨v1, vf1⟩ := k1
    have j1 : (hx : Int) < (d.length : Int) := by omega
    have lg4 : g < w4.heap.size := HB4.out.lt
    have lA4 : gA < w4.heap.size := (HM4.out.base rfl).2.1
    have HW4 := Lib.hid (Pl.put HP4.out HB4.out HFA.out hne HM4.out hhd (o := some (k', x')) (fun _ _ e => by cases e; exact ⟨hk1, hk2, hx1⟩))
    obtain ⟨m1, m2, m3⟩ := hole_move HL.out HG.out HC.out
    have HL4 := Lib.hid m1
    clear hcmp p0 p1 m1 m2 m3
    go_wp2_with fail
    go_region
    obtain ⟨w6, hw6⟩ : ∃ w6, w6 = (w4.setCell ⟨gA, oA + hx * 2, none⟩ (.string ⟨k'.toArray⟩)).setCell ⟨gA, oA + hx * 2 + 1, none⟩ (.int .i64 (x' : Int)) := ⟨_, rfl⟩
    have HP6 : Hid (Pl F w6.drew g seed m (d.set hx (some (k', x')))) := by show Pl _ _ _ _ _ _; rw [hw6]; exact HW4.out.1.only ((Only.refl (fun _ => False) _).drew) (fun _ _ hf => hf)
    have HO6 : Hid (Only F w w6.drew) := by show Only _ _ _; rw [hw6]; exact (HO4.out.trans (HW4.out.2.mono fun _ _ hf => Or.inl hf)).drew
    have HNXa := Lib.hid (next_any HP6.out (i := ix) (by rw [List.length_set]; exact hixd))
    rw [List.length_set] at HNXa
    rw [← hw6]
    clear hw6 c0 c1 c2 t0 t1 v0 v1 vf0 vf1
    obtain ⟨y, hy⟩ : ∃ y, y = pos d.length ix 1 := ⟨_, rfl⟩
    have HYE : Hid (y = pos L ix 1) := by show _ = _; rw [hy, HLen.out]
    have HYD := Lib.hid hy
    rw [← hy] at HNXa
    clear hy
    go_wp2_with fail
    refine HNXa.out.mono ?_
    rintro e w7 ⟨rfl, rfl⟩
    go_wp2_with fail
    go_roundw
    case rel =>
     refine ⟨f', ix, y, d.set hx (some (k', x')), rfl, rfl, by rw [HYD.out]; exact HL4, ?_, ?_, by show _ = _; rw [List.length_set]; exact HLen.out, HP6.out, HO6.out⟩
     ·show _ < _; rw [HYD.out, ← HLen.out]; exact Hf2.out
     ·show _ = _; rw [HD.out, HYD.out]; exact Hgm.out HC.out
    case measure =>
     have := Hf3.out
     rw [HLen.out] at this
     simp only [intOf, Int.toNat_natCast, HYE.out]; omega
   ·have hcI : ¬ (s2 : Int) ≤ (s1 : Int) := by omega
    have HC : Hid (¬ way d.length (hom seed L k') hx < way d.length (hom seed L k') ix) := by show ¬ _; rw [← HAE.out, ← HS1.out]; exact fun h => hcmp (HME.out.2 h)
    have HL4 := Lib.hid (hole_skip HL.out HG.out HC.out)
    have HNXa := Lib.hid (next_any HP4.out hixd)
    obtain ⟨y, hy⟩ : ∃ y, y = pos d.length ix 1 := ⟨_, rfl⟩
    have HYE : Hid (y = pos L ix 1) := by show _ = _; rw [hy, HLen.out]
    have HYD := Lib.hid hy
    rw [← hy] at HNXa HL4
    clear hy hcmp
    go_wp2_with fail
    refine HNXa.out.mono ?_
    rintro e w7 ⟨rfl, rfl⟩
    go_wp2_with fail
    go_roundw
    case rel =>
     refine ⟨f', hx, y, d, rfl, rfl, HL4, ?_, ?_, HLen, HP4.out, HO4.out⟩
     ·show _ < _; rw [HYD.out, ← HLen.out]; exact Hf2.out
     ·show _ = _; rw [HD.out, HYD.out]; exact Hgs.out HC.out
    case measure =>
     have := Hf3.out
     rw [HLen.out] at this
     simp only [intOf, Int.toNat_natCast, HYE.out]; omega
end
end Go.Proofs.YtlmljhnogmfcfaaGreat.Pe
namespace Go.Proofs.YtlmljhnogmfcfaaGreat.Pf
open Go.RowKit Ap Mi Nw Rg Hm Tm Tn Ta Pm Pa Pb Pc Pd Pe
open Tf (okK okK_spec Gets Puts)
open Th (Dels)
open To (putT putN roomT delT delN put_good del_good room_tab)

theorem Pw.double {n : Nat} (h : Pw n) (hn : n ≤ 8388608) : Pw (2 * n) := by
 obtain ⟨e, he, rfl⟩ := h
 refine ⟨e + 1, ?_, by rw [Nat.pow_succ]; omega⟩
 rcases Nat.lt_or_ge e 24 with h | h
 ·omega
 ·have : e = 24 := by omega
  subst this
  have h2 : (2 : Nat) ^ 24 = 16777216 := by decide
  omega
theorem Pw.half {n : Nat} (h : Pw n) (hn : 8 < n) : Pw (n / 2) := by
 obtain ⟨e, he, rfl⟩ := h
 obtain ⟨d, rfl⟩ : ∃ d, e = d + 1 := ⟨e - 1, by
  rcases Nat.eq_zero_or_pos e with h | h
  ·subst h; simp at hn
  ·omega⟩
 exact ⟨d, by omega, by rw [Nat.pow_succ]; omega⟩
section
variable {F F' : Nat → Prop} {w w' : World} {g : Nat} {seed m : Int} {c : List (Cell Key)}
theorem Pl.keys (h : Pl F w g seed m c) (m' : Int) : Pl F (w.setCell ⟨g, 2, none⟩ (.int .i64 m')) g seed m' c ∧ Only F w (w.setCell ⟨g, 2, none⟩ (.int .i64 m')) := by
 have hF := h.inF
 obtain ⟨⟨A, cap, h1, h2, h3, h4⟩, h5, h6, h7, h8⟩ := h
 exact ⟨⟨⟨A, cap, h1.set 2 _, h2, h3.only (only_own (F := fun j => j = g) rfl _) (fun a ha e => (h4 a ha).2 e), h4⟩, h5, h6, h7, h8⟩, only_own hF _⟩
def putPost (F : Nat → Prop) (w : World) (g : Nat) (seed : Int) (c' : List (Cell Key)) (r : Value) : Ending → World → Prop := fun q w' =>
 q = .returned r ∧ Pt (More F w) w' g seed c' ∧ Only F w w'
set_option maxRecDepth 100000 in
set_option maxHeartbeats 2000000 in
theorem put_any (h : Pt F w g seed c) (k : Key) (hk : k.length ≤ 1000000) (hn : c.length ≤ 8388608) (hcm : cnt c < 1048576) {n e : Int} {c' : List (Cell Key)} (hx : n ≤ 9223372036854775807) (hP : Puts seed c k n c' e) :
  Calls Tryz.prog 106 #[.pointer (some ⟨g, 0, none⟩), .string ⟨k.toArray⟩, .int .i64 n] w (putPost F w g seed c' (.int .i64 e)) := by
 unfold putPost
 rcases hP with ⟨hv, rfl, rfl⟩ | ⟨hv, hn0, ⟨i, x, hi⟩, rfl, rfl⟩ | ⟨hv, ⟨x, rfl, rfl⟩, hno, rfl⟩
 ·have HL := Lib.hid (look_bad h.pl k hk n hv)
  have HH := Lib.hid h
  clear h hv
  go_enter Tryz.func106, Tryz.ntmps106
  go_wp2_with fail
  refine HL.out.mono ?_
  rintro e w1 ⟨rfl, rfl⟩
  go_wp2_with fail
  go_ret
  exact ⟨rfl, HH.out.mono (fun _ _ hf => Or.inl hf), Only.refl _ _⟩
 ·have HL := Lib.hid (look_good h.pl k n hv hn0 (find_there h.pl h.good.tab k (okK_spec hv).1 hk hi))
  have HH := Lib.hid h
  clear h hv hi
  go_enter Tryz.func106, Tryz.ntmps106
  go_wp2_with fail
  refine HL.out.mono ?_
  rintro e w1 ⟨rfl, hb⟩
  have HB := Lib.hid hb
  clear hb
  go_wp2_with fail
  go_ret
  exact ⟨rfl, (HH.out.below HB.out (Nat.le_refl _)).mono (fun _ _ hf => Or.inl hf), Only.of_below HB.out (Nat.le_refl _) _⟩
 ·have HL := Lib.hid (look_good h.pl k (x : Int) hv (by omega) (find_gone h.pl h.good.free k (okK_spec hv).1 hk hno))
  obtain ⟨z, hz⟩ : ∃ z, z = gap c (hom seed c.length k) := ⟨_, rfl⟩
  rw [← hz] at HL
  have HH := Lib.hid h
  have HK := Lib.hid (okK_spec hv)
  have HPG := Lib.hid (put_good h.good hno x)
  have HRT := Lib.hid (room_tab h.good)
  have HNO := Lib.hid hno
  have hcl := cnt_le c
  have hq : ((cnt c : Int) == 1048576) = false := by simp; omega
  have HR0 : Hid (roomT (hom seed) c = if 3 * c.length < 4 * (cnt c + 1) then sizeC (hom seed (2 * c.length)) (2 * c.length) c else c) := rfl
  obtain ⟨R, hR⟩ : ∃ R, R = roomT (hom seed) c := ⟨_, rfl⟩
  have HPT : Hid (putT (hom seed) c k x = putC (hom seed R.length) R k x) := by show _ = _; rw [hR]; rfl
  rw [← hR] at HR0 HRT
  obtain ⟨T, hT⟩ : ∃ T, T = putT (hom seed) c k x := ⟨_, rfl⟩
  rw [← hT] at HPT HPG ⊢
  clear h hv hz hno hR hT
  go_enter Tryz.func106, Tryz.ntmps106
  go_wp2_with fail
  refine HL.out.mono ?_
  rintro e w1 ⟨rfl, hb⟩
  have H1 := Lib.hid (HH.out.below hb (Nat.le_refl _))
  have HB := Lib.hid hb
  clear hb HL
  obtain ⟨A, cap, hBk, _⟩ := H1.out.pl.has
  obtain ⟨c0, c1, c2, _⟩ := hBk.three
  clear hBk
  by_cases hroom : 3 * c.length < 4 * (cnt c + 1)
  ·have hrI : 3 * (c.length : Int) < 4 * ((cnt c : Int) + 1) := by omega
   have HRE : Hid (R = sizeC (hom seed (2 * c.length)) (2 * c.length) c) := by show _ = _; rw [HR0.out, if_pos hroom]
   have HSZ : Hid (∀ W, Pt F W g seed c → Calls Tryz.prog 132 #[.pointer (some ⟨g, 0, none⟩), .int .i64 (2 * (c.length : Int))] W (sizePost F W g seed (cnt c : Int) R)) := fun W hW => by
    have := resize_any hW.pl hW.good.tab (2 * c.length) (Pw.double hW.pl.pw hW.pl.lim) (by omega) (by omega)
    rw [← HRE.out] at this
    exact_mod_cast this
   clear hroom
   go_wp2_with fail
   go_quiet (fail)
   have H2 := Lib.hid (H1.out.drewN nq)
   go_wp2_with fail
   refine (HSZ.out _ H2.out).mono ?_
   rintro e w2 ⟨rfl, hp2, ho2⟩
   have HP2 := Lib.hid hp2
   have HO2 : Hid (Only F w w2) := ((Only.of_below HB.out (Nat.le_refl _) F).drewN nq).trans (ho2.mono fun _ _ hf => Or.inl hf)
   have hz2 := ho2.size
   have hz1 := HB.out.size
   have HP2m : Hid (Pl (More F w) w2 g seed (cnt c : Int) R) := HP2.out.mono fun j _ hf => hf.elim Or.inl (fun h => Or.inr (by simp at h; omega))
   clear hp2 ho2 c0 c1 c2
   have HAD := Lib.hid (add_any HP2m.out (free_of_cnt (by have h1 := HRT.out.2.1; have h2 := HRT.out.2.2.1; unfold putN at h1; have := HH.out.good.hi; have := HH.out.good.lo; split at h1 <;> omega)) k HK.out.1 HK.out.2 (fun y hm => HNO.out y ((HRT.out.2.2.2 _).1 hm)) x (by omega))
   rw [← HPT.out] at HAD
   go_wp2_with fail
   refine HAD.out.mono ?_
   rintro e w3 ⟨rfl, hp3, ho3⟩
   have HP3 := Lib.hid hp3
   have HO3 := Lib.hid (HO2.out.trans ho3)
   obtain ⟨A3, cap3, hB3, _⟩ := hp3.has
   obtain ⟨d0, d1, d2, df0, df1, df2⟩ := hB3.three
   have HKE := Lib.hid (Pl.keys hp3 ((cnt c : Int) + 1))
   clear hp3 ho3 hB3 HAD
   go_wp2_with fail
   go_ret
   refine ⟨rfl, ⟨?_, HPG.out.1⟩, HO3.out.trans (HKE.out.2.mono fun _ _ hf => hf)⟩
   rw [HPG.out.2.2.1]
   exact_mod_cast HKE.out.1
  ·have hrI : decide (3 * (c.length : Int) < 4 * ((cnt c : Int) + 1)) = false := by simp; omega
   have HRE : Hid (R = c) := by show _ = _; rw [HR0.out, if_neg hroom]
   clear hroom
   go_wp2_with fail
   go_quiet (fail)
   obtain ⟨w2, hw2⟩ : ∃ w2, w2 = w1.drewN nq := ⟨_, rfl⟩
   have HP2m : Hid (Pl (More F w) w2 g seed (cnt c : Int) R) := by show Pl _ _ _ _ _ _; rw [HRE.out, hw2]; exact (H1.out.drewN nq).pl.mono (fun _ _ hf => Or.inl hf)
   have HO2 : Hid (Only F w w2) := by show Only _ _ _; rw [hw2]; exact (Only.of_below HB.out (Nat.le_refl _) F).drewN nq
   rw [← hw2]
   clear hw2 c0 c1 c2
   have HAD := Lib.hid (add_any HP2m.out (free_of_cnt (by have h1 := HRT.out.2.1; have h2 := HRT.out.2.2.1; unfold putN at h1; have := HH.out.good.hi; have := HH.out.good.lo; split at h1 <;> omega)) k HK.out.1 HK.out.2 (fun y hm => HNO.out y ((HRT.out.2.2.2 _).1 hm)) x (by omega))
   rw [← HPT.out] at HAD
   go_wp2_with fail
   refine HAD.out.mono ?_
   rintro e w3 ⟨rfl, hp3, ho3⟩
   have HP3 := Lib.hid hp3
   have HO3 := Lib.hid (HO2.out.trans ho3)
   obtain ⟨A3, cap3, hB3, _⟩ := hp3.has
   obtain ⟨d0, d1, d2, df0, df1, df2⟩ := hB3.three
   have HKE := Lib.hid (Pl.keys hp3 ((cnt c : Int) + 1))
   clear hp3 ho3 hB3 HAD
   go_wp2_with fail
   go_ret
   refine ⟨rfl, ⟨?_, HPG.out.1⟩, HO3.out.trans (HKE.out.2.mono fun _ _ hf => hf)⟩
   rw [HPG.out.2.2.1]
   exact_mod_cast HKE.out.1
end
end Go.Proofs.YtlmljhnogmfcfaaGreat.Pf
namespace Go.Proofs.YtlmljhnogmfcfaaGreat.Pg
open Go.RowKit Ap Mi Nw Rg Hm Tm Tn Ta Pm Pa Pb Pc Pd Pe Pf
open Tf (okK okK_spec Gets)
open Th (Dels)
open To (delT delN del_good)

section
variable {F F' : Nat → Prop} {w w' : World} {g : Nat} {seed m : Int} {c : List (Cell Key)}
set_option maxRecDepth 100000 in
set_option maxHeartbeats 2000000 in
theorem del_any (h : Pt F w g seed c) (k : Key) (hk : k.length ≤ 1000000) (hn : c.length ≤ 8388608) {m e : Int} {c' : List (Cell Key)} (hD : Dels seed c k c' m e) :
  Calls Tryz.prog 95 #[.pointer (some ⟨g, 0, none⟩), .string ⟨k.toArray⟩] w (putPost F w g seed c' (.tuple #[.int .i64 m, .int .i64 e])) := by
 unfold putPost
 have HA := Lib.hid (at_any h k hk 0)
 have HG := Lib.hid hD
 have HH := Lib.hid h
 clear h hD
 go_enter Tryz.func95, Tryz.ntmps95
 go_wp2_with fail
 refine HA.out.mono ?_
 rintro q w1 ⟨r, f, rfl, hat, hb⟩
 have H1 := Lib.hid (HH.out.below hb (Nat.le_refl _))
 have HB := Lib.hid hb
 clear hb HA
 rcases hat with ⟨hv, rfl, rfl⟩ | ⟨hv, _, ⟨i, x, hi, rfl⟩, rfl⟩ | ⟨hv, _, hno, rfl⟩
 ·have HE : Hid (m = 0 ∧ e = 2 ∧ c' = c) := by
   rcases HG.out with ⟨h1, h2, h3, h4⟩ | ⟨h1, _, _⟩
   ·rcases h3 with ⟨_, _, h5⟩ | ⟨_, _, h5⟩ | ⟨h6, _⟩
    ·exact ⟨h2, h5, h1⟩
    ·exact absurd h5 h4
    ·rcases hv with h7 | h7
     ·rw [h6] at h7; cases h7
     ·omega
   ·rcases hv with h7 | h7
    ·rw [h1] at h7; cases h7
    ·omega
  clear hv
  go_wp2_with fail
  go_ret2
  obtain ⟨h1, h2, h3⟩ := HE.out
  subst h1; subst h2; subst h3
  exact ⟨rfl, H1.out.mono (fun _ _ hf => Or.inl hf), Only.of_below HB.out (Nat.le_refl _) _⟩
 ·have HE : Hid (m = (x : Int) ∧ e = 0 ∧ c' = delT (hom seed) c i) := by
   rcases HG.out with ⟨_, _, h3, h4⟩ | ⟨h1, ⟨i', x', h2, h3, h4⟩, h5⟩
   ·rcases h3 with ⟨h5, _, _⟩ | ⟨_, _, h5⟩ | ⟨_, h5, _⟩
    ·rw [hv] at h5; cases h5
    ·exact absurd h5 h4
    ·exact absurd (List.mem_of_getElem? hi) (h5 x)
   ·have e1 := To.num_one HH.out.good (List.mem_of_getElem? hi) (List.mem_of_getElem? h2)
    have e2 := HH.out.good.tab.one i i' k x x' hi h2
    subst e1; subst e2
    exact ⟨h3, h5, h4⟩
  have HDG := Lib.hid (del_good HH.out.good hi)
  have HDT := Lib.hid (del_tab HH.out.good.tab hi HH.out.good.free)
  have HEM := Lib.hid (empty_any H1.out.pl H1.out.good.tab H1.out.good.free hi)
  have HD0 : Hid (delT (hom seed) c i = if 8 < c.length ∧ 8 * cnt (delC (hom seed c.length) c i) < c.length then sizeC (hom seed (c.length / 2)) (c.length / 2) (delC (hom seed c.length) c i) else delC (hom seed c.length) c i) := rfl
  obtain ⟨D, hDD⟩ : ∃ D, D = delC (hom seed c.length) c i := ⟨_, rfl⟩
  rw [← hDD] at HDT HEM HD0
  obtain ⟨T, hT⟩ : ∃ T, T = delT (hom seed) c i := ⟨_, rfl⟩
  rw [← hT] at HE HD0 HDG
  obtain ⟨gA, oA, cap, hB, lA, _, _, e0, e1, _, _, _⟩ := H1.out.pl.slot hi
  obtain ⟨c0, c1, c2, _⟩ := hB.three
  have lg : g < w1.heap.size := hB.lt
  have i1 : (i : Int) < (c.length : Int) := by have := lt_of_some hi; omega
  have a1 : w1.cell? ⟨gA, oA + i * 2 + 1, none⟩ = some (.int .i64 (x : Int)) := e1
  clear hB e0 e1 hi hv HG hDD hT
  go_wp2_with fail
  refine HEM.out.mono ?_
  rintro q w2 ⟨rfl, hp2, ho2⟩
  have HP2 := Lib.hid hp2
  have HO2 := Lib.hid ((Only.of_below HB.out (Nat.le_refl _) F).trans (ho2.mono fun _ _ hf => Or.inl hf))
  have hz2 := ho2.size
  have hz1 := HB.out.size
  obtain ⟨A2, cap2, hB2, _⟩ := hp2.has
  have HKE := Lib.hid (Pl.keys hp2 (cnt D : Int))
  have hcD : (cnt c : Int) - 1 = (cnt D : Int) := by have := HDT.out.2.2.1; omega
  have HLD := HDT.out.2.1
  rw [HLD] at hB2
  have hcl := cnt_le c
  clear hp2 ho2 c0 c1 c2 a1 HEM
  obtain ⟨c0, c1, c2, f0, f1, f2⟩ := hB2.three
  clear hB2
  go_upto_region 7 with (fail)
  try rw [hcD]
  obtain ⟨w3, hw3⟩ : ∃ w3, w3 = w2.setCell ⟨g, 2, none⟩ (.int .i64 (cnt D : Int)) := ⟨_, rfl⟩
  rw [← hw3] at HKE ⊢
  have HP3 := Lib.hid HKE.out.1
  have HO3 := Lib.hid (HO2.out.trans (HKE.out.2.mono fun _ _ hf => Or.inl hf))
  have hz3 : w2.heap.size ≤ w3.heap.size := HKE.out.2.size
  have hcD' : cnt D ≤ c.length := by omega
  obtain ⟨A3, cap3, hB3, _⟩ := HP3.out.has
  rw [HLD] at hB3
  clear hw3 HKE HP2 HO2 c0 c1 c2 f0 f1 f2 hcD
  have HLD' := Lib.hid HLD
  clear HLD
  obtain ⟨c0, c1, c2, f0, f1, f2⟩ := hB3.three
  clear hB3
  by_cases hc1 : 8 < c.length
  ·have d1 : decide ((8 : Int) < (c.length : Int)) = true := by simp; omega
   by_cases hc2 : 8 * cnt D < c.length
   ·have d2 : decide (8 * (cnt D : Int) < (c.length : Int)) = true := by simp; omega
    have HTE : Hid (T = sizeC (hom seed (c.length / 2)) (c.length / 2) D) := by show _ = _; rw [HD0.out, if_pos ⟨hc1, hc2⟩]
    have HSZ : Hid (∀ W, Pl F W g seed (cnt D : Int) D → Calls Tryz.prog 132 #[.pointer (some ⟨g, 0, none⟩), .int .i64 ((c.length : Int) / 2)] W (sizePost F W g seed (cnt D : Int) T)) := fun W hW => by
     have := resize_any hW HDT.out.1 (c.length / 2) (Pw.half HH.out.pl.pw hc1) (by omega) (by omega)
     rw [← HTE.out] at this
     exact_mod_cast this
    clear hc1 hc2
    go_wp2_with fail
    go_quiet (fail)
    have HP4 := Lib.hid (HP3.out.drewN nq)
    go_wp2_with fail
    refine (HSZ.out _ HP4.out).mono ?_
    rintro e w4 ⟨rfl, hp4, ho4⟩
    have HP5 : Hid (Pl (More F w) w4 g seed (cnt D : Int) T) := hp4.mono fun j _ hf => hf.elim Or.inl (fun h => Or.inr (by simp at h; omega))
    have HO5 : Hid (Only F w w4) := (HO3.out.drewN nq).trans (ho4.mono fun _ _ hf => Or.inl hf)
    clear hp4 ho4 HSZ c0 c1 c2 f0 f1 f2
    have HCT : Hid (cnt T = cnt D) := by show _ = _; have h1 := HDG.out.2.2.1; have h2 := HDT.out.2.2.1; omega
    go_wp2_with fail
    go_ret2
    obtain ⟨h1, h2, h3⟩ := HE.out
    subst h1; subst h2; subst h3
    exact ⟨rfl, ⟨by rw [HCT.out]; exact HP5.out, HDG.out.1⟩, HO5.out⟩
   ·have d2 : decide (8 * (cnt D : Int) < (c.length : Int)) = false := by simp; omega
    have HTE : Hid (T = D) := by show _ = _; rw [HD0.out, if_neg (fun h => hc2 h.2)]
    clear hc1 hc2
    go_wp2_with fail
    go_quiet (fail)
    have HP5 : Hid (Pl (More F w) (w3.drewN nq) g seed (cnt D : Int) D) := (HP3.out.drewN nq).mono (fun _ _ hf => Or.inl hf)
    have HO5 := Lib.hid (HO3.out.drewN nq)
    go_wp2_with fail
    go_ret2
    obtain ⟨h1, h2, h3⟩ := HE.out
    have h4 := HTE.out
    subst h4
    subst h1; subst h2; subst h3
    exact ⟨rfl, ⟨HP5.out, HDG.out.1⟩, HO5.out⟩
  ·have d1 : decide ((8 : Int) < (c.length : Int)) = false := by simp; omega
   have HTE : Hid (T = D) := by show _ = _; rw [HD0.out, if_neg (fun h => hc1 h.1)]
   clear hc1
   go_wp2_with fail
   go_quiet (fail)
   have HP5 : Hid (Pl (More F w) (w3.drewN nq) g seed (cnt D : Int) D) := (HP3.out.drewN nq).mono (fun _ _ hf => Or.inl hf)
   have HO5 := Lib.hid (HO3.out.drewN nq)
   go_wp2_with fail
   go_ret2
   obtain ⟨h1, h2, h3⟩ := HE.out
   have h4 := HTE.out
   subst h4
   subst h1; subst h2; subst h3
   exact ⟨rfl, ⟨HP5.out, HDG.out.1⟩, HO5.out⟩
 ·have HE : Hid (m = 0 ∧ e = 9 ∧ c' = c) := by
   rcases HG.out with ⟨h1, h2, h3, h4⟩ | ⟨_, ⟨i', x', h2, _⟩, _⟩
   ·rcases h3 with ⟨h5, _, _⟩ | ⟨_, _, h5⟩ | ⟨_, _, _, h5⟩
    ·rw [hv] at h5; cases h5
    ·exact absurd h5 h4
    ·exact ⟨h2, h5, h1⟩
   ·exact absurd (List.mem_of_getElem? h2) (hno x')
  clear hv hno
  go_wp2_with fail
  go_ret2
  obtain ⟨h1, h2, h3⟩ := HE.out
  subst h1; subst h2; subst h3
  exact ⟨rfl, H1.out.mono (fun _ _ hf => Or.inl hf), Only.of_below HB.out (Nat.le_refl _) _⟩
end
end Go.Proofs.YtlmljhnogmfcfaaGreat.Pg
namespace Go.Proofs.YtlmljhnogmfcfaaGreat.Ph
open Go.RowKit Ap Mi Nw Rg Hm Tm Tn Ta Tb Pm Pa Pb Pc Pd Pe Pf
open Tc (kc_set nc_set)
open Td (zK zI make_keys make_ints own_ki own_ik len_none)

def clonePost (w : World) (n : Nat) (xs : List Value) : Ending → World → Prop := fun e w' =>
 ∃ A c, e = .returned (.slice A n c) ∧ Mine w.heap.size 2 w' A n c xs ∧ Below w.heap.size w w'
theorem rs_none {w : World} {sz n c : Nat} {xs : List Value} (h : Rs w sz none n c xs) (hp : 0 < sz) : n = 0 ∧ c = 0 ∧ xs = [] := by
 have h0 : xs = [] := by
  rcases Nat.eq_zero_or_pos xs.length with h0 | h0
  ·exact List.eq_nil_of_length_eq_zero h0
  ·obtain ⟨_, _, e, _⟩ := h.rd h0; cases e
 subst h0
 have hl := h.len
 refine ⟨?_, h.non rfl, rfl⟩
 rcases Nat.eq_zero_or_pos n with h2 | h2
 ·exact h2
 ·have := Nat.mul_pos h2 hp; simp at hl; omega
theorem clone_nil (w : World) (A : Option Addr) (n c : Nat) : (binOp .eql 132 (.slice A n c) (.slice none 0 0)).run Tryz.prog w = .ok (.bool A.isNone) w := Lib.run_eql_slice_nil w 132 173 A n c 0 0 Tryz.underlying132
set_option maxRecDepth 100000 in
set_option maxHeartbeats 1000000 in
theorem clone_any (A : Option Addr) (n c : Nat) (xs : List Value) (w : World) (h : Rs w 2 A n c xs) (h1 : ∀ u ∈ xs, u.oneCell' = true) (hn : n ≤ 1000000000) :
  Calls Tryz.prog 122 #[.slice A n c] w (clonePost w n xs) := by
 cases A with
 | none =>
  obtain ⟨rfl, rfl, rfl⟩ := rs_none h (by omega)
  have hnil := fun w => clone_nil w none 0 0
  clear h
  unfold clonePost
  go_enter Tryz.func122, Tryz.ntmps122
  go_wp2_with fail
  go_ret
  exact ⟨_, _, rfl, Mine.nil _ _ _, Below.refl _ _⟩
 | some a =>
  have HS := Lib.hid ((h.below (bnew w (.cells #[] 173)) (Nat.le_refl _)).src Tryz.underlying132 (by omega) h1)
  have HM := Lib.hid (Mine.lit (sz := 2) w #[] 173 0 rfl (by unfold maxLen; omega))
  have hnil := fun w => clone_nil w (some a) n c
  clear h h1
  unfold clonePost
  go_enter Tryz.func122, Tryz.ntmps122
  go_wp2_with (at_builtin; (refine wpList_mine rfl _ _ elC _ rfl rfl HM.out _ rfl n _ HS.out (by omega) (by omega) (by simp) ?_))
  intro A' c' w1 m1 g1 _
  have HM1 := Lib.hid m1
  have HB1 : Hid (Below w.heap.size w w1) := (bnew w _).trans (Tb.below_grown g1 (by simp) (fun k e => by simp at e; omega))
  clear m1 g1
  go_wp2_with fail
  go_ret
  refine ⟨A', c', by simp, ?_, HB1.out⟩
  simpa using HM1.out
section
variable {F F' : Nat → Prop} {w w' : World} {g : Nat} {seed m : Int} {c : List (Cell Key)}
def copyPost (w : World) (seed : Int) (c : List (Cell Key)) : Ending → World → Prop := fun e w' =>
 ∃ g, e = .returned (.pointer (some ⟨g, 0, none⟩)) ∧ Pt (fun j => w.heap.size ≤ j) w' g seed c ∧ Below w.heap.size w w'
set_option maxRecDepth 100000 in
set_option maxHeartbeats 1000000 in
theorem copy_any (h : Pt F w g seed c) : Calls Tryz.prog 78 #[.pointer (some ⟨g, 0, none⟩)] w (copyPost w seed c) := by
 have HU := Lib.hid (usable_any h.pl)
 have HH := Lib.hid h
 have hlim := h.pl.lim
 obtain ⟨A, cap, h1, h2, h3, h4⟩ := h.pl.has
 obtain ⟨c0, c1, c2, _, _, _⟩ := h1.three
 have HG := Lib.hid h1
 have HA := Lib.hid h3
 obtain ⟨x, hx⟩ : ∃ x, x = cnt c := ⟨_, rfl⟩
 have HX := Lib.hid hx
 rw [← hx] at c2 HG
 clear h h1 h2 h3 h4 hx
 unfold copyPost
 go_enter Tryz.func78, Tryz.ntmps78
 go_wp2_with fail
 refine HU.out.mono ?_
 rintro e w1 ⟨rfl, rfl⟩
 go_wp2_with fail
 have HGd := Lib.hid (show Blk w.drew g _ _ from HG.out)
 have HAd := Lib.hid (mine_drew HA.out)
 have Od := Lib.hid ((Below.refl w.heap.size w).drew)
 refine wp_region_noPanic ?_
 refine wp_region_held_drew (S := fun v => v.cell? ⟨g, 0, none⟩ = some (.int .u64 seed) ∧ v.cell? ⟨g, 1, none⟩ = some (.slice A c.length cap) ∧ v.cell? ⟨g, 2, none⟩ = some (.int .i64 (x : Int))) (by kernel_rfl) (⟨c0, c1, c2⟩) (fun hHeld => ?_)
 generalize w.drew = u1 at HGd HAd Od hHeld ⊢
 refine Rg.th 0 (some 6) (v := ?_) rfl (by kernel_rfl) (fun _ _ _ h => h) (by rfl) (by assumption) ?_ ?_
 rotate_left
 ·intro w hSw; go_simp; first | done | with_reducible rfl
 try simp only [Ap.sc]
 refine Rg.th 1 (some 7) (v := ?_) rfl (by kernel_rfl) (fun _ _ _ h => h) (by rfl) (by assumption) ?_ ?_
 rotate_left
 ·intro w hSw; go_simp; first | done | with_reducible rfl
 try simp only [Ap.sc]
 refine Rg.th 2 (some 8) (v := ?_) rfl (by kernel_rfl) (fun _ _ _ h => h) (by rfl) (by assumption) ?_ ?_
 rotate_left
 ·intro w hSw; go_simp; first | done | with_reducible rfl
 try simp only [Ap.sc]
 refine Rg.th 3 (some 9) (v := ?_) rfl (by kernel_rfl) (fun _ _ _ h => h) (by rfl) (by assumption) ?_ ?_
 rotate_left
 ·intro w hSw; go_simp; first | done | with_reducible rfl
 try simp only [Ap.sc]
 refine Rg.th 4 (some 10) (v := ?_) rfl (by kernel_rfl) (fun _ _ _ h => h) (by rfl) (by assumption) ?_ ?_
 rotate_left
 ·intro w hSw; go_simp; first | done | with_reducible rfl
 try simp only [Ap.sc]
 refine Rg.th 5 (some 11) (v := ?_) rfl (by kernel_rfl) (fun _ _ _ h => h) (by rfl) (by assumption) ?_ ?_
 rotate_left
 ·intro w hSw; go_simp; first | done | with_reducible rfl
 try simp only [Ap.sc]
 refine Rg.th 6 (some 12) (v := ?_) rfl (by kernel_rfl) (fun _ _ _ h => h) (by rfl) (by assumption) ?_ ?_
 rotate_left
 ·intro w hSw; go_simp; first | done | with_reducible rfl
 try simp only [Ap.sc]
 refine Rg.th 7 (some 13) (v := ?_) rfl (by kernel_rfl) (fun _ _ _ h => h) (by rfl) (by assumption) ?_ ?_
 rotate_left
 ·intro w hSw; go_simp; first | done | with_reducible rfl
 try simp only [Ap.sc]
 refine Rg.th 9 (some 15) (v := ?_) rfl (by kernel_rfl) (fun _ _ _ h => h) (by rfl) (by assumption) ?_ ?_
 rotate_left
 ·intro w hSw; go_simp; first | done | with_reducible rfl
 try simp only [Ap.sc]
 refine Rg.th 10 (some 16) (v := ?_) rfl (by kernel_rfl) (fun _ _ _ h => h) (by rfl) (by assumption) ?_ ?_
 rotate_left
 ·intro w hSw; go_simp; first | done | with_reducible rfl
 try simp only [Ap.sc]
 refine Rg.th 11 (some 17) (v := ?_) rfl (by kernel_rfl) (fun _ _ _ h => h) (by rfl) (by assumption) ?_ ?_
 rotate_left
 ·intro w hSw; go_simp; first | done | with_reducible rfl
 try simp only [Ap.sc]
 refine Rg.th 12 (some 18) (v := ?_) rfl (by kernel_rfl) (fun _ _ _ h => h) (by rfl) (by assumption) ?_ ?_
 rotate_left
 ·intro w hSw; go_simp; first | done | with_reducible rfl
 try simp only [Ap.sc]
 refine wpAnyH_ready (rs := [8]) (by kernel_rfl) (by simp) ?_
 refine AllReadyH.cons (o := ⟨some 14, _, _, _, _, _⟩) rfl (fun K hK => ?_) AllReadyH.nil
 go_simp
 refine (clone_any A c.length cap _ u1 (Rs.mine HAd.out) (pc_one _) (by omega)).mono ?_
 rintro e u2 ⟨A2, k2, rfl, m2, b2⟩
 have HM2 := Lib.hid m2; have HB2 := Lib.hid b2
 have HG2 := Lib.hid (HGd.out.below b2 HGd.out.lt)
 have hz2 := b2.size
 clear m2 b2
 go_simp
 refine hK.out _ _ (⟨HG2.out.cell 0, HG2.out.cell 1, HG2.out.cell 2⟩) (fun hHeld => ?_)
 clear hK K
 try simp only [Ap.sc]
 refine Rg.th 13 (some 19) (v := ?_) rfl (by kernel_rfl) (fun _ _ _ h => h) (by rfl) (by assumption) ?_ ?_
 rotate_left
 ·intro w hSw; go_simp; first | done | with_reducible rfl
 try simp only [Ap.sc]
 refine wpAnyH_ready (rs := [14]) (by kernel_rfl) (by simp) ?_
 refine AllReadyH.cons (o := ⟨some 20, _, _, _, _, _⟩) rfl (fun K hK => ?_) AllReadyH.nil
 go_simp
 have HG4 := Lib.hid (HG2.out.below (bnew u2 (.cells #[.int .u64 seed, .slice A2 c.length k2, .int .i64 (x : Int)] 134)) HG2.out.lt)
 refine hK.out _ _ (⟨HG4.out.cell 0, HG4.out.cell 1, HG4.out.cell 2⟩) (fun hHeld => ?_)
 clear hK K
 try simp only [Ap.sc]
 refine Rg.th 15 (some 2) (v := ?_) rfl (by kernel_rfl) (fun _ _ _ h => h) (by rfl) (by assumption) ?_ ?_
 rotate_left
 ·intro w hSw; go_simp; first | done | with_reducible rfl
 try simp only [Ap.sc]
 refine wpAnyH_done (by kernel_rfl) ?_ _
 refine NoPanic.normal ?_
 go_wp2_with fail
 go_ret
 have hzd := Od.out.size
 have hxx := HX.out
 subst hxx
 refine ⟨_, rfl, ⟨⟨⟨A2, k2, Blk.new u2 _ _, by omega, (HM2.out.mono (Nat.zero_le _)).below (bnew u2 _) (Nat.le_refl _), fun a ha => ?_⟩, HH.out.pl.kys, HH.out.pl.sd, HH.out.pl.pw, HH.out.pl.lim⟩, HH.out.good⟩, ?_⟩
 ·have h1 := HM2.out.base ha; exact ⟨by omega, by omega⟩
 ·exact (Od.out.trans (HB2.out.mono hzd)).trans ((bnew u2 _).mono (by omega))
def part (c : List (Cell Key)) (K : Nat) : List (Cell Key) := c.take K ++ List.replicate (c.length - K) none
end
end Go.Proofs.YtlmljhnogmfcfaaGreat.Ph
