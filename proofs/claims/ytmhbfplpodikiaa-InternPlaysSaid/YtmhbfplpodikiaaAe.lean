/- Proves what the specification's Add and Release return. Conditions: as each theorem names them. -/
import Derived.Test.YtmhbfplpodikiaaAb
import Derived.Deep.RegionHeld3
namespace Go.Proofs.Ytmhbfplpodikiaa.Ae
open Go.RowKit Ap Mi Nw Rg Aa Ab

theorem elN : Elm Try.prog 29 72 (.agg #[.string ⟨#[]⟩, .int .i64 0]) 2 where
  sl := Try.underlying29
  info := by kernel_rfl
  small := by
    have h : (Try.prog.info? 72).map (fun i => decide (i.bytes ≤ 1024)) = some true := by kernel_rfl
    intro i hi; rw [hi] at h; simpa using h
  cells := rfl
  pos := by omega
def put2 (w : World) (r : Nat) (a b : Value) : World := (w.setCell ⟨r, 0, none⟩ a).setCell ⟨r, 1, none⟩ b
theorem put2_blk {w : World} {r : Nat} {p q : Value} {t : TypeId} (h : Blk w r #[p, q] t) (a b : Value) : Blk (put2 w r a b) r #[a, b] t := (h.set 0 a).set 1 b
theorem put2_only (w : World) (r : Nat) (a b : Value) : Only (fun j => j = r) w (put2 w r a b) := ((Only.refl (fun j => j = r) w).put (ad := ⟨r, 0, none⟩) rfl a).put (ad := ⟨r, 1, none⟩) rfl b
theorem only_row {w w' : World} {A : Option Addr} {F : Nat → Prop} (h : w.grownBy w' (A.map (·.block))) (hA : ∀ a, A = some a → F a.block) : Only F w w' :=
  Only.of_grown h (fun k e => by
    cases A with
    | none => cases e
    | some a => simp at e; subst e; exact hA a rfl)
theorem nrL_set : ∀ (l : List Nr) (n : Nat) (_ : n < l.length) (x : Nr), nrL (l.set n x) = ((nrL l).set (n * 2) (.string x.k)).set (n * 2 + 1) (.int .i64 x.r)
  | [], n, h, _ => by simp at h
  | y :: l, 0, _, x => by
    have e : ∀ (z : Nr) (m : List Nr), nrL (z :: m) = .string z.k :: .int .i64 z.r :: nrL m := fun z m => by unfold nrL; rw [List.flatMap_cons]; rfl
    rw [List.set_cons_zero, e, e]; rfl
  | y :: l, n + 1, h, x => by
    have e : ∀ (z : Nr) (m : List Nr), nrL (z :: m) = .string z.k :: .int .i64 z.r :: nrL m := fun z m => by unfold nrL; rw [List.flatMap_cons]; rfl
    rw [List.set_cons_succ, e, e, nrL_set l n (by simpa using h) x, show (n + 1) * 2 = n * 2 + 1 + 1 by omega]
    rfl
theorem nrL_setr {l : List Nr} {n : Nat} (h : n < l.length) (r : Int) : nrL (l.set n { l[n] with r := r }) = (nrL l).set (n * 2 + 1) (.int .i64 r) := by
  rw [nrL_set l n h]
  congr 1
  obtain ⟨h1, _⟩ := nrL_get l n h
  refine List.ext_getElem? (fun j => ?_)
  rw [List.getElem?_set]
  split
  · rename_i e; subst e
    rw [h1, if_pos (List.getElem?_eq_some_iff.1 h1).1]
  · rfl
/-- The region behind a call. -/
def Tn (G : Nat → Prop) (w w' : World) : Nat → Prop := fun j => G j ∨ (w.heap.size ≤ j ∧ j < w'.heap.size)
structure Nx (G : Nat → Prop) (w w' : World) (l : List Nr) (A : Option Addr) (c : Nat) : Prop where
  r : RT (Tn G w w') w' A c l
  b : Below w.heap.size w w'
def addPost (G : Nat → Prop) (m : Int) (w : World) (l : List Nr) (v e : Int) : Ending → World → Prop := fun q w' => ∃ A c, q = .returned (.tuple #[tbV m A l.length c, .int .i64 v, .int .i64 e]) ∧ Nx G w w' l A c
def relPost (G : Nat → Prop) (m : Int) (w : World) (l : List Nr) (v : Bool) (e : Int) : Ending → World → Prop := fun q w' => ∃ A c, q = .returned (.tuple #[tbV m A l.length c, .bool v, .int .i64 e]) ∧ Nx G w w' l A c
def zT : Array Value := #[.int .i64 0, .slice none 0 0]
/-- The argument's box, and room for the result. -/
structure Sb (m : Int) (w : World) (C : Nat) (A : Option Addr) (n c : Nat) (v : World) : Prop where
  k : Blk v C #[.int .i64 m, .slice A n c] 31
  r : Blk v (C + 1) #[.int .i64 0, .slice none 0 0] 31
  b : Below w.heap.size w v
  z : C + 2 ≤ v.heap.size
  c : C = w.heap.size
section
variable {G : Nat → Prop} {A A' : Option Addr} {c n c' n' C : Nat} {l L : List Nr} {w v v' : World} {m : Int}
theorem Sb.below (h : Sb m w C A n c v) (hb : Below v.heap.size v v') : Sb m w C A n c v' :=
  ⟨h.k.below hb h.k.lt, h.r.below hb h.r.lt, h.b.trans (hb.mono h.b.size), Nat.le_trans h.z hb.size, h.c⟩
theorem Sb.new (m : Int) (w : World) (A : Option Addr) (n c : Nat) : Sb m w w.heap.size A n c ((w.alloc (.cells (tbA m A n c) 31)).alloc (.cells zT 31)) where
  k := (Blk.new w _ _).below (bnew _ _) (by simp)
  r := by have := Blk.new (w.alloc (.cells (tbA m A n c) 31)) zT 31; unfold zT at this ⊢; simpa using this
  b := (bnew w _).alloc (by simp) _
  z := by simp
  c := rfl
/-- The box holds another slice now. -/
theorem Sb.put (h : Sb m w C A n c v) (A' : Option Addr) (n' c' : Nat) : Sb m w C A' n' c' (v.setCell ⟨C, 1, none⟩ (.slice A' n' c')) := by
  have ho : Only (fun j => j = C) v (v.setCell ⟨C, 1, none⟩ (.slice A' n' c')) := only_own (F := fun j => j = C) rfl _
  have := ho.size
  exact ⟨h.k.set 1 _, h.r.only ho (by omega), h.b.trans (ho.below (fun j e => by have := h.c; omega) h.b.size), by have := h.z; omega, h.c⟩
/-- A row of the call's own has changed. -/
theorem Sb.row (h : Sb m w C A n c v) {F : Nat → Prop} (ho : Only F v v') (hF : ∀ j, F j → C + 2 ≤ j) : Sb m w C A n c v' := by
  have := ho.size
  exact ⟨h.k.only ho (fun hf => by have := hF _ hf; omega), h.r.only ho (fun hf => by have := hF _ hf; omega), h.b.trans (ho.below (fun j hj => by have := hF j hj; have := h.c; omega) h.b.size), by have := h.z; omega, h.c⟩
theorem fin_old (h : RT G w A c l) (hs : Sb m w C A' n' c' v) (a b : Value) : Nx G w (put2 v (C + 1) a b) l A c := by
  have ho := put2_only v (C + 1) a b
  have hb : Below w.heap.size w (put2 v (C + 1) a b) := hs.b.trans (ho.below (fun j e => by have := hs.c; omega) hs.b.size)
  exact ⟨(h.below hb (Nat.le_refl _)).mono fun j hj => Or.inl hj, hb⟩
theorem fin_new (h : Mine (C + 2) 2 v A l.length c (nrL l)) (hs : Sb m w C A' n' c' v) (a b : Value) : Nx G w (put2 v (C + 1) a b) l A c := by
  have ho := put2_only v (C + 1) a b
  have hb : Below w.heap.size w (put2 v (C + 1) a b) := hs.b.trans (ho.below (fun j e => by have := hs.c; omega) hs.b.size)
  refine ⟨⟨(Rs.mine h).only ho (fun x hx e => by have := (h.base hx).1; omega), fun x hx => Or.inr ?_⟩, hb⟩
  have h1 := h.base hx
  have := ho.size; have := hs.c
  exact ⟨by omega, by omega⟩
set_option maxRecDepth 100000 in
set_option maxHeartbeats 4000000 in
theorem rel_any (m : Int) (n : Int) (h : RT G w A c l) (hl : l.length ≤ 100000) (hf : Fine 1099511627776 l) :
    Calls Try.prog 15 #[tbV m A l.length c, .int .i64 n] w (relPost G m w (relL l n) (relB l n) (relE l n)) := by
  obtain ⟨v0, hv0⟩ : ∃ v0, v0 = (w.alloc (.cells (tbA m A l.length c) 31)).alloc (.cells zT 31) := ⟨_, rfl⟩
  have HS0 : Hid (Sb m w w.heap.size A l.length c v0) := by show Sb _ _ _ _ _ _ _; rw [hv0]; exact Sb.new m w A l.length c
  obtain ⟨C, hC⟩ : ∃ C, C = w.heap.size := ⟨_, rfl⟩
  rw [← hC] at HS0
  have hcm := Rs.max h.r
  have hcl := Rs.le h.r
  unfold maxLen at hcm
  have H := Lib.hid h
  have HR0 := Lib.hid (h.below HS0.out.b (Nat.le_refl _))
  have HA := Lib.hid (rel_cases l n)
  have HH := Lib.hid (has_any m n HR0.out)
  have HF := Lib.hid hf
  obtain ⟨E, hE⟩ : ∃ E, E = relE l n := ⟨_, rfl⟩
  obtain ⟨B, hB⟩ : ∃ B, B = relB l n := ⟨_, rfl⟩
  obtain ⟨L, hL⟩ : ∃ L, L = relL l n := ⟨_, rfl⟩
  rw [← hE, ← hB, ← hL] at HA ⊢
  clear hE hB hL h hf
  unfold relPost tbV
  unfold tbA zT at hv0
  unfold tbV vPost at HH
  obtain ⟨x0, x1, xf0, xf1⟩ := HS0.out.k.two
  obtain ⟨z0, z1, zf0, zf1⟩ := HS0.out.r.two
  have lg := HS0.out.k.lt
  have lz := HS0.out.r.lt
  rcases HA.out with ⟨hh, rfl, rfl, hL⟩ | ⟨i, hi, rfl, hr, rfl, hA⟩
  · have hL2 := hL.symm; clear hL; subst hL2
    rw [decide_eq_false hh] at HH
    clear HA hh
    go_enter Try.func15, Try.ntmps15
    go_upto_region 1 with fail
    rw [← hv0, ← hC]
    clear hv0
    have HC := Lib.hid hC
    clear hC
    go_wp2_with fail
    refine HH.out.mono ?_
    rintro q v1 ⟨rfl, hb⟩
    have HS1 := Lib.hid (HS0.out.below hb)
    have HR1 := Lib.hid (HR0.out.below hb (Nat.le_refl _))
    clear hb x0 x1 xf0 xf1 z0 z1 zf0 zf1 lg lz
    obtain ⟨x0, x1, xf0, xf1⟩ := HS1.out.k.two
    obtain ⟨z0, z1, zf0, zf1⟩ := HS1.out.r.two
    have lg := HS1.out.k.lt
    have lz := HS1.out.r.lt
    go_wp2_with fail
    have HN : Hid (Nx G w (put2 v1 (C + 1) (.int .i64 m) (.slice A l.length c)) _ A c) := fin_old H.out HS1.out _ _
    have HQ9 : Hid (Blk (put2 v1 (C + 1) (.int .i64 m) (.slice A l.length c)) (C + 1) #[.int .i64 m, .slice A l.length c] 31) := put2_blk HS1.out.r _ _
    obtain ⟨v9, hv9⟩ : ∃ v9, v9 = put2 v1 (C + 1) (.int .i64 m) (.slice A l.length c) := ⟨_, rfl⟩
    rw [← hv9] at HN HQ9
    unfold put2 at hv9
    rw [← hv9]
    clear x0 x1 xf0 xf1 z0 z1 zf0 zf1 lg lz hv9
    obtain ⟨s0, s1, _⟩ := HQ9.out.two
    refine bodyPost_ret (v := .tuple #[.agg #[.int .i64 m, .slice A l.length c], .bool false, .int .i64 9]) (by simp [results, Try.results15, go_sem, s0, s1]) rfl ⟨A, c, ?_, HN.out⟩
    first | rfl | (rw [List.length_modify]; done) | (rw [List.length_set]; done) | (simp [HNN.out]; done)
  · rw [decide_eq_true ((has_nat hi).2 hr)] at HH
    clear HA
    go_enter Try.func15, Try.ntmps15
    go_upto_region 1 with fail
    rw [← hv0, ← hC]
    clear hv0
    have HC := Lib.hid hC
    clear hC
    go_wp2_with fail
    refine HH.out.mono ?_
    rintro q v1 ⟨rfl, hb⟩
    have HS1 := Lib.hid (HS0.out.below hb)
    have HR1 := Lib.hid (HR0.out.below hb (Nat.le_refl _))
    clear hb x0 x1 xf0 xf1 z0 z1 zf0 zf1 lg lz
    obtain ⟨x0, x1, xf0, xf1⟩ := HS1.out.k.two
    obtain ⟨z0, z1, zf0, zf1⟩ := HS1.out.r.two
    have lg := HS1.out.k.lt
    have lz := HS1.out.r.lt
    have HI := Lib.hid hi
    have S1 := Lib.hid (HR1.out.r.src (P := Try.prog) Try.underlying29 (by omega) (nrL_one _))
    have hzv := HS1.out.z
    go_wp2_with (at_builtin; (refine wpList_mine rfl _ _ elN _ rfl rfl (Mine.nil (C + 2) 2 v1) _ rfl l.length _ S1.out (by omega) (by omega) hzv ?_))
    intro A1 c1 u1 m1 g1 q1
    have M1 : Hid (Mine (C + 2) 2 u1 A1 l.length c1 (nrL l)) := by show Mine _ _ _ _ _ _ _; first | exact m1 | (rw [Nat.zero_add, List.nil_append] at m1; exact m1)
    have B1 : Hid (Below v1.heap.size v1 u1) := (Below.refl _ _).grown (by exact g1) (Nat.le_refl _) (fun k e => by cases e)
    have HSu := Lib.hid (HS1.out.below B1.out)
    try simp only [Nat.zero_add]
    clear m1 g1 q1 x0 x1 xf0 xf1 z0 z1 zf0 zf1 lg lz
    obtain ⟨x0, x1, xf0, xf1⟩ := HSu.out.k.two
    obtain ⟨z0, z1, zf0, zf1⟩ := HSu.out.r.two
    have lg := HSu.out.k.lt
    have lz := HSu.out.r.lt
    obtain ⟨v2, hv2⟩ : ∃ v2, v2 = u1.setCell ⟨C, 1, none⟩ (.slice A1 l.length c1) := ⟨_, rfl⟩
    have HS2 : Hid (Sb m w C A1 l.length c1 v2) := by show Sb _ _ _ _ _ _ _; rw [hv2]; exact HSu.out.put A1 l.length c1
    have M2 : Hid (Mine (C + 2) 2 v2 A1 l.length c1 (nrL l)) := by
      show Mine _ _ _ _ _ _ _
      rw [hv2]
      exact M1.out.only (only_own (F := fun j => j = C) rfl _) (fun a ha e => by have := (M1.out.base ha).1; omega)
    have j1 : (i : Int) < (l.length : Int) := by omega
    go_upto_region 4 with fail
    rw [← hv2]
    clear hv2 x0 x1 xf0 xf1 z0 z1 zf0 zf1 lg lz
    obtain ⟨x0, x1, xf0, xf1⟩ := HS2.out.k.two
    obtain ⟨z0, z1, zf0, zf1⟩ := HS2.out.r.two
    have lg := HS2.out.k.lt
    have lz := HS2.out.r.lt
    obtain ⟨gb, go, hgo, hgb, lgb⟩ := mine_place M2.out (by rw [nrL_len]; omega)
    subst hgo
    have hgi := nrL_get l i (by exact hi)
    have y0 := (mine_cell M2.out hgi.1).1; have yf0 := (mine_cell M2.out hgi.1).2; have y1 := (mine_cell M2.out hgi.2).1; have yf1 := (mine_cell M2.out hgi.2).2
    rw [← Nat.add_assoc] at y1 yf1
    clear hgi
    obtain ⟨x, hx⟩ : ∃ x, x = l[i]'hi := ⟨_, rfl⟩
    have hxr : x.r ≤ 1099511627776 := by rw [hx]; exact (HF.out _ (List.getElem_mem hi)).2.1
    have hx2 := hx.symm
    simp only [hx2] at y0 y1 hr hA
    clear hx2
    have HX := Lib.hid hx
    have M3 : Hid (Mine (C + 2) 2 (v2.setCell ⟨gb, go + i * 2 + 1, none⟩ (.int .i64 (x.r - 1))) (some ⟨gb, go, none⟩) (l.set i { x with r := x.r - 1 }).length c1 (nrL (l.set i { x with r := x.r - 1 }))) := by
      show Mine _ _ _ _ _ _ _
      rw [List.length_set, hx, nrL_setr hi, Nat.add_assoc]
      exact mine_put M2.out (i * 2 + 1) _ (by rw [nrL_len]; omega) rfl
    have HS3 : Hid (Sb m w C (some ⟨gb, go, none⟩) l.length c1 (v2.setCell ⟨gb, go + i * 2 + 1, none⟩ (.int .i64 (x.r - 1)))) := HS2.out.row (F := fun j => j = gb) (only_own (F := fun j => j = gb) rfl _) (fun j e => by omega)
    obtain ⟨v3, hv3⟩ : ∃ v3, v3 = v2.setCell ⟨gb, go + i * 2 + 1, none⟩ (.int .i64 (x.r - 1)) := ⟨_, rfl⟩
    rw [← hv3] at M3 HS3
    have HLL : Hid ((l.set i { x with r := x.r - 1 }).length = l.length) := List.length_set
    clear hx
    go_upto_region 5 with fail
    rw [← hv3]
    clear hv3 y0 y1 yf0 yf1 x0 x1 xf0 xf1 z0 z1 zf0 zf1 lg lz
    obtain ⟨x0, x1, xf0, xf1⟩ := HS3.out.k.two
    obtain ⟨z0, z1, zf0, zf1⟩ := HS3.out.r.two
    have lg := HS3.out.k.lt
    have lz := HS3.out.r.lt
    have hgi := nrL_get (l.set i { x with r := x.r - 1 }) i (by rw [List.length_set]; exact hi)
    simp only [List.getElem_set_self] at hgi
    have y0 := (mine_cell M3.out hgi.1).1; have yf0 := (mine_cell M3.out hgi.1).2; have y1 := (mine_cell M3.out hgi.2).1; have yf1 := (mine_cell M3.out hgi.2).2
    rw [← Nat.add_assoc] at y1 yf1
    clear hgi
    rcases hA with ⟨h2, rfl, hL⟩ | ⟨h2, rfl, hL⟩
    · have M4 : Hid (Mine (C + 2) 2 ((v3.setCell ⟨gb, go + i * 2, none⟩ (.string ⟨#[]⟩)).setCell ⟨gb, go + i * 2 + 1, none⟩ (.int .i64 0)) (some ⟨gb, go, none⟩) (l.set i zeroN).length c1 (nrL (l.set i zeroN))) := by
        show Mine _ _ _ _ _ _ _
        have e := nrL_set (l.set i { x with r := x.r - 1 }) i (by rw [HLL.out]; exact HI.out) zeroN
        rw [List.set_set] at e
        have h1 := mine_put M3.out (i * 2) (.string ⟨#[]⟩) (by rw [nrL_len, HLL.out]; have := HI.out; omega) rfl
        have h2 := mine_put h1 (i * 2 + 1) (.int .i64 0) (by rw [List.length_set, nrL_len, HLL.out]; have := HI.out; omega) rfl
        rw [List.length_set, e, Nat.add_assoc]
        rw [HLL.out] at h2
        exact h2
      have HS4 : Hid (Sb m w C (some ⟨gb, go, none⟩) l.length c1 ((v3.setCell ⟨gb, go + i * 2, none⟩ (.string ⟨#[]⟩)).setCell ⟨gb, go + i * 2 + 1, none⟩ (.int .i64 0))) := (HS3.out.row (F := fun j => j = gb) (only_own (F := fun j => j = gb) rfl _) (fun j e => by omega)).row (F := fun j => j = gb) (only_own (F := fun j => j = gb) rfl _) (fun j e => by omega)
      obtain ⟨v4, hv4⟩ : ∃ v4, v4 = (v3.setCell ⟨gb, go + i * 2, none⟩ (.string ⟨#[]⟩)).setCell ⟨gb, go + i * 2 + 1, none⟩ (.int .i64 0) := ⟨_, rfl⟩
      rw [← hv4] at M4 HS4
      have h3 : ¬ 0 < x.r - 1 := by omega
      clear h2
      go_upto_region 8 with fail
      rw [← hv4]
      clear hv4 y0 y1 yf0 yf1 x0 x1 xf0 xf1 z0 z1 zf0 zf1 lg lz
      obtain ⟨x0, x1, xf0, xf1⟩ := HS4.out.k.two
      obtain ⟨z0, z1, zf0, zf1⟩ := HS4.out.r.two
      have lg := HS4.out.k.lt
      have lz := HS4.out.r.lt
      have hl4 : (l.set i zeroN).length = l.length := List.length_set
      subst hL
      go_wp2_with fail
      have HN : Hid (Nx G w (put2 v4 (C + 1) (.int .i64 m) (.slice (some ⟨gb, go, none⟩) l.length c1)) _ (some ⟨gb, go, none⟩) c1) := fin_new M4.out HS4.out _ _
      have HQ9 : Hid (Blk (put2 v4 (C + 1) (.int .i64 m) (.slice (some ⟨gb, go, none⟩) l.length c1)) (C + 1) #[.int .i64 m, .slice (some ⟨gb, go, none⟩) l.length c1] 31) := put2_blk HS4.out.r _ _
      obtain ⟨v9, hv9⟩ : ∃ v9, v9 = put2 v4 (C + 1) (.int .i64 m) (.slice (some ⟨gb, go, none⟩) l.length c1) := ⟨_, rfl⟩
      rw [← hv9] at HN HQ9
      unfold put2 at hv9
      rw [← hv9]
      clear x0 x1 xf0 xf1 z0 z1 zf0 zf1 lg lz hv9
      obtain ⟨s0, s1, _⟩ := HQ9.out.two
      refine bodyPost_ret (v := .tuple #[.agg #[.int .i64 m, .slice (some ⟨gb, go, none⟩) l.length c1], .bool true, .int .i64 0]) (by simp [results, Try.results15, go_sem, s0, s1]) rfl ⟨(some ⟨gb, go, none⟩), c1, ?_, HN.out⟩
      first | rfl | (rw [List.length_modify]; done) | (rw [List.length_set]; done) | (simp [HNN.out]; done)
    · subst hL
      go_wp2_with fail
      have HN : Hid (Nx G w (put2 v3 (C + 1) (.int .i64 m) (.slice (some ⟨gb, go, none⟩) l.length c1)) (l.modify i fun x => { x with r := x.r - 1 }) (some ⟨gb, go, none⟩) c1) := by rw [modify_set HI.out, ← HX.out]; exact fin_new M3.out HS3.out _ _
      have HQ9 : Hid (Blk (put2 v3 (C + 1) (.int .i64 m) (.slice (some ⟨gb, go, none⟩) l.length c1)) (C + 1) #[.int .i64 m, .slice (some ⟨gb, go, none⟩) l.length c1] 31) := put2_blk HS3.out.r _ _
      obtain ⟨v9, hv9⟩ : ∃ v9, v9 = put2 v3 (C + 1) (.int .i64 m) (.slice (some ⟨gb, go, none⟩) l.length c1) := ⟨_, rfl⟩
      rw [← hv9] at HN HQ9
      unfold put2 at hv9
      rw [← hv9]
      clear x0 x1 xf0 xf1 z0 z1 zf0 zf1 lg lz hv9
      obtain ⟨s0, s1, _⟩ := HQ9.out.two
      refine bodyPost_ret (v := .tuple #[.agg #[.int .i64 m, .slice (some ⟨gb, go, none⟩) l.length c1], .bool false, .int .i64 0]) (by simp [results, Try.results15, go_sem, s0, s1]) rfl ⟨(some ⟨gb, go, none⟩), c1, ?_, HN.out⟩
      first | rfl | (rw [List.length_modify]; done) | (rw [List.length_set]; done) | (simp [HNN.out]; done)
theorem src_nr (w : World) : Src Try.prog 2 29 (.slice (some ⟨w.heap.size, 0, none⟩) 1 1) 1 (nrL [zeroN]) (w.alloc (.cells #[.string ⟨#[]⟩, .int .i64 0] 72)) := by
  have h : Mine w.heap.size 2 (w.alloc (.cells #[.string ⟨#[]⟩, .int .i64 0] 72)) (some ⟨w.heap.size, 0, none⟩) 1 1 (nrL [zeroN]) := Mine.lit w #[.string ⟨#[]⟩, .int .i64 0] 72 1 rfl (by unfold maxLen; omega)
  exact (Rs.mine h).src (P := Try.prog) Try.underlying29 (by omega) (nrL_one _)
set_option maxRecDepth 100000 in
set_option maxHeartbeats 4000000 in
theorem add_any (m : Int) (k : ByteArray) (h : RT G w A c l) (hl : l.length ≤ 100000) (hf : Fine 1099511627776 l) :
    Calls Try.prog 13 #[tbV m A l.length c, .string k] w (addPost G m w (addL m l k) (addV m l k) (addE m l k)) := by
  obtain ⟨v0, hv0⟩ : ∃ v0, v0 = (w.alloc (.cells (tbA m A l.length c) 31)).alloc (.cells zT 31) := ⟨_, rfl⟩
  have HS0 : Hid (Sb m w w.heap.size A l.length c v0) := by show Sb _ _ _ _ _ _ _; rw [hv0]; exact Sb.new m w A l.length c
  obtain ⟨C, hC⟩ : ∃ C, C = w.heap.size := ⟨_, rfl⟩
  rw [← hC] at HS0
  have hcm := Rs.max h.r
  have hcl := Rs.le h.r
  unfold maxLen at hcm
  have H := Lib.hid h
  have HR0 := Lib.hid (h.below HS0.out.b (Nat.le_refl _))
  have HA := Lib.hid (add_cases m l k)
  have HV := Lib.hid (valid_any k v0)
  have HF := Lib.hid (find_any m k HR0.out)
  have HFN := Lib.hid hf
  obtain ⟨E, hE⟩ : ∃ E, E = addE m l k := ⟨_, rfl⟩
  obtain ⟨V, hV⟩ : ∃ V, V = addV m l k := ⟨_, rfl⟩
  obtain ⟨L, hL⟩ : ∃ L, L = addL m l k := ⟨_, rfl⟩
  rw [← hE, ← hV, ← hL] at HA ⊢
  clear hE hV hL h hf
  unfold addPost tbV
  unfold tbA zT at hv0
  unfold tbV vPost at HF
  obtain ⟨x0, x1, xf0, xf1⟩ := HS0.out.k.two
  obtain ⟨z0, z1, zf0, zf1⟩ := HS0.out.r.two
  have lg := HS0.out.k.lt
  have lz := HS0.out.r.lt
  rcases HA.out with ⟨hk, rfl, rfl, hL⟩ | ⟨hk, hfn, hct, rfl, rfl, hL⟩ | ⟨hk, hfn, hct, rfl, rfl, hL⟩ | ⟨i, hi, hk, hfi, rfl, rfl, hL⟩
  · rw [decide_eq_false hk] at HV
    have hL2 := hL.symm; clear hL; subst hL2
    clear HA hk HF
    go_enter Try.func13, Try.ntmps13
    go_upto_region 1 with fail
    rw [← hv0, ← hC]
    clear hv0
    have HC := Lib.hid hC
    clear hC
    go_wp2_with fail
    refine HV.out.mono ?_
    rintro q v1 ⟨rfl, hv1⟩
    have hv2 := hv1.symm
    clear hv1
    subst hv2
    clear HV
    go_wp2_with fail
    have HN : Hid (Nx G w (put2 v0 (C + 1) (.int .i64 m) (.slice A l.length c)) _ A c) := fin_old H.out HS0.out _ _
    have HQ9 : Hid (Blk (put2 v0 (C + 1) (.int .i64 m) (.slice A l.length c)) (C + 1) #[.int .i64 m, .slice A l.length c] 31) := put2_blk HS0.out.r _ _
    obtain ⟨v9, hv9⟩ : ∃ v9, v9 = put2 v0 (C + 1) (.int .i64 m) (.slice A l.length c) := ⟨_, rfl⟩
    rw [← hv9] at HN HQ9
    unfold put2 at hv9
    rw [← hv9]
    clear x0 x1 xf0 xf1 z0 z1 zf0 zf1 lg lz hv9
    obtain ⟨s0, s1, _⟩ := HQ9.out.two
    refine bodyPost_ret (v := .tuple #[.agg #[.int .i64 m, .slice A l.length c], .int .i64 0, .int .i64 2]) (by simp [results, Try.results13, go_sem, s0, s1]) rfl ⟨A, c, ?_, HN.out⟩
    first | rfl | (rw [List.length_modify]; done) | (rw [List.length_set]; done) | (simp [HNN.out]; done)
  · rw [decide_eq_true hk] at HV
    have hfI : fndI l k = -1 := by unfold fndI; rw [hfn]
    rw [hfI] at HF
    clear hfI
    have hL2 := hL.symm; clear hL; subst hL2
    clear HA hk hfn
    go_enter Try.func13, Try.ntmps13
    go_upto_region 1 with fail
    rw [← hv0, ← hC]
    clear hv0
    have HC := Lib.hid hC
    clear hC
    go_wp2_with fail
    refine HV.out.mono ?_
    rintro q v1 ⟨rfl, hv1⟩
    have hv2 := hv1.symm
    clear hv1
    subst hv2
    clear HV
    go_wp2_with fail
    refine HF.out.mono ?_
    rintro q v1 ⟨rfl, hb⟩
    have HS1 := Lib.hid (HS0.out.below hb)
    have HR1 := Lib.hid (HR0.out.below hb (Nat.le_refl _))
    clear hb x0 x1 xf0 xf1 z0 z1 zf0 zf1 lg lz
    obtain ⟨x0, x1, xf0, xf1⟩ := HS1.out.k.two
    obtain ⟨z0, z1, zf0, zf1⟩ := HS1.out.r.two
    have lg := HS1.out.k.lt
    have lz := HS1.out.r.lt
    have HLEN : Hid (∀ v, Below v1.heap.size v1 v → Calls Try.prog 30 #[.agg #[.int .i64 m, .slice A l.length c]] v (vPost v (.int .i64 (cnt l : Int)))) := fun v hv => len_any m (HR1.out.below hv (Nat.le_refl _)) (by omega)
    unfold vPost at HLEN
    have X0 : ∀ v, Below v1.heap.size v1 v → v.cell? ⟨C, 0, none⟩ = some (.int .i64 m) := fun v hv => (hv.cell lg).trans x0
    have X1 : ∀ v, Below v1.heap.size v1 v → v.cell? ⟨C, 1, none⟩ = some (.slice A l.length c) := fun v hv => (hv.cell lg).trans x1
    have D1 : Below v1.heap.size v1 v1.drew := (Below.refl _ _).drew
    skip
    go_wp2_with fail
    refine wp_region_noPanic ?_
    refine wp_region_held_drew (S := fun v => Below v1.heap.size v1 v) (by kernel_rfl) (D1) (fun hHeld => ?_)
    refine wpAnyH_take (i := 0) (oi := ⟨some 15, _, _, _, _, _⟩) (v := ?_) rfl (by kernel_rfl) (by kernel_rfl) (by kernel_rfl) (fun _ _ _ h => h) (Or.inl ⟨by rfl, ?_⟩) (by assumption) ?_
    rotate_left
    · intro w hSw; go_simp; first | done | with_reducible rfl
    try simp only [Act.put, List.setIfInBounds_toArray, List.set_cons_zero, List.set_cons_succ]
    refine wpAnyH_take (i := 1) (oi := ⟨some 16, _, _, _, _, _⟩) (v := ?_) rfl (by kernel_rfl) (by kernel_rfl) (by kernel_rfl) (fun _ _ _ h => h) (Or.inl ⟨by rfl, ?_⟩) (by assumption) ?_
    rotate_left
    · intro w hSw; go_simp; first | done | with_reducible rfl
    try simp only [Act.put, List.setIfInBounds_toArray, List.set_cons_zero, List.set_cons_succ]
    refine wpAnyH_take (i := 2) (oi := ⟨some 17, _, _, _, _, _⟩) (v := ?_) rfl (by kernel_rfl) (by kernel_rfl) (by kernel_rfl) (fun _ _ _ h => h) (Or.inl ⟨by rfl, ?_⟩) (by assumption) ?_
    rotate_left
    · intro w hSw; go_simp; first | done | with_reducible rfl
    try simp only [Act.put, List.setIfInBounds_toArray, List.set_cons_zero, List.set_cons_succ]
    refine wpAnyH_take (i := 3) (oi := ⟨some 18, _, _, _, _, _⟩) (v := ?_) rfl (by kernel_rfl) (by kernel_rfl) (by kernel_rfl) (fun _ _ _ h => h) (Or.inl ⟨by rfl, ?_⟩) (by assumption) ?_
    rotate_left
    · intro w hSw; go_simp; first | done | with_reducible rfl
    try simp only [Act.put, List.setIfInBounds_toArray, List.set_cons_zero, List.set_cons_succ]
    refine wpAnyH_take (i := 5) (oi := ⟨some 20, _, _, _, _, _⟩) (v := ?_) rfl (by kernel_rfl) (by kernel_rfl) (by kernel_rfl) (fun _ _ _ h => h) (Or.inl ⟨by rfl, ?_⟩) (by assumption) ?_
    rotate_left
    · intro w hSw; go_simp; first | done | with_reducible rfl
    try simp only [Act.put, List.setIfInBounds_toArray, List.set_cons_zero, List.set_cons_succ]
    refine wpAnyH_take (i := 6) (oi := ⟨some 21, _, _, _, _, _⟩) (v := ?_) rfl (by kernel_rfl) (by kernel_rfl) (by kernel_rfl) (fun _ _ _ h => h) (Or.inl ⟨by rfl, ?_⟩) (by assumption) ?_
    rotate_left
    · intro w hSw; go_simp; first | done | with_reducible rfl
    try simp only [Act.put, List.setIfInBounds_toArray, List.set_cons_zero, List.set_cons_succ]
    refine wpAnyH_ready (rs := [4]) (by kernel_rfl) (by simp) ?_
    refine AllReadyH.cons (o := ⟨some 19, _, _, _, _, _⟩) rfl (fun K hK => ?_) AllReadyH.nil
    go_simp
    refine (HLEN.out _ hHeld).mono ?_
    rintro q v2 ⟨rfl, hbu⟩
    have K2 : Below v1.heap.size v1 v2 := hHeld.trans (hbu.mono hHeld.size)
    go_simp
    refine hK.out _ _ (K2) (fun hHeld => ?_)
    clear hK K
    try simp only [Act.put, List.setIfInBounds_toArray, List.set_cons_zero, List.set_cons_succ]
    refine wpAnyH_take (i := 7) (oi := ⟨some 22, _, _, _, _, _⟩) (v := ?_) rfl (by kernel_rfl) (by kernel_rfl) (by kernel_rfl) (fun _ _ _ h => h) (Or.inl ⟨by rfl, ?_⟩) (by assumption) ?_
    rotate_left
    · intro w hSw; go_simp; first | done | with_reducible rfl
    try simp only [Act.put, List.setIfInBounds_toArray, List.set_cons_zero, List.set_cons_succ]
    refine wpAnyH_take (i := 8) (oi := ⟨some 23, _, _, _, _, _⟩) (v := ?_) rfl (by kernel_rfl) (by kernel_rfl) (by kernel_rfl) (fun _ _ _ h => h) (Or.inl ⟨by rfl, ?_⟩) (by assumption) ?_
    rotate_left
    · intro w hSw; go_simp; first | done | with_reducible rfl
    try simp only [Act.put, List.setIfInBounds_toArray, List.set_cons_zero, List.set_cons_succ]
    refine wpAnyH_done (by kernel_rfl) ?_ _
    refine NoPanic.normal ?_
    have HS2 := Lib.hid (HS1.out.below hHeld)
    have HR2 := Lib.hid (HR1.out.below hHeld (Nat.le_refl _))
    clear hHeld X0 X1 D1 x0 x1 xf0 xf1 z0 z1 zf0 zf1 lg lz
    obtain ⟨x0, x1, xf0, xf1⟩ := HS2.out.k.two
    obtain ⟨z0, z1, zf0, zf1⟩ := HS2.out.r.two
    have lg := HS2.out.k.lt
    have lz := HS2.out.r.lt
    go_wp2_with fail
    have HN : Hid (Nx G w (put2 v2 (C + 1) (.int .i64 m) (.slice A l.length c)) _ A c) := fin_old H.out HS2.out _ _
    have HQ9 : Hid (Blk (put2 v2 (C + 1) (.int .i64 m) (.slice A l.length c)) (C + 1) #[.int .i64 m, .slice A l.length c] 31) := put2_blk HS2.out.r _ _
    obtain ⟨v9, hv9⟩ : ∃ v9, v9 = put2 v2 (C + 1) (.int .i64 m) (.slice A l.length c) := ⟨_, rfl⟩
    rw [← hv9] at HN HQ9
    unfold put2 at hv9
    rw [← hv9]
    clear x0 x1 xf0 xf1 z0 z1 zf0 zf1 lg lz hv9
    obtain ⟨s0, s1, _⟩ := HQ9.out.two
    refine bodyPost_ret (v := .tuple #[.agg #[.int .i64 m, .slice A l.length c], .int .i64 0, .int .i64 7]) (by simp [results, Try.results13, go_sem, s0, s1]) rfl ⟨A, c, ?_, HN.out⟩
    first | rfl | (rw [List.length_modify]; done) | (rw [List.length_set]; done) | (simp [HNN.out]; done)
  · rw [decide_eq_true hk] at HV
    have hfI : fndI l k = -1 := by unfold fndI; rw [hfn]
    rw [hfI] at HF
    clear hfI
    have HFNN := Lib.hid hfn
    have HKO := Lib.hid hk
    clear HA hk hfn
    go_enter Try.func13, Try.ntmps13
    go_upto_region 1 with fail
    rw [← hv0, ← hC]
    clear hv0
    have HC := Lib.hid hC
    clear hC
    go_wp2_with fail
    refine HV.out.mono ?_
    rintro q v1 ⟨rfl, hv1⟩
    have hv2 := hv1.symm
    clear hv1
    subst hv2
    clear HV
    go_wp2_with fail
    refine HF.out.mono ?_
    rintro q v1 ⟨rfl, hb⟩
    have HS1 := Lib.hid (HS0.out.below hb)
    have HR1 := Lib.hid (HR0.out.below hb (Nat.le_refl _))
    clear hb x0 x1 xf0 xf1 z0 z1 zf0 zf1 lg lz
    obtain ⟨x0, x1, xf0, xf1⟩ := HS1.out.k.two
    obtain ⟨z0, z1, zf0, zf1⟩ := HS1.out.r.two
    have lg := HS1.out.k.lt
    have lz := HS1.out.r.lt
    have HLEN : Hid (∀ v, Below v1.heap.size v1 v → Calls Try.prog 30 #[.agg #[.int .i64 m, .slice A l.length c]] v (vPost v (.int .i64 (cnt l : Int)))) := fun v hv => len_any m (HR1.out.below hv (Nat.le_refl _)) (by omega)
    unfold vPost at HLEN
    have X0 : ∀ v, Below v1.heap.size v1 v → v.cell? ⟨C, 0, none⟩ = some (.int .i64 m) := fun v hv => (hv.cell lg).trans x0
    have X1 : ∀ v, Below v1.heap.size v1 v → v.cell? ⟨C, 1, none⟩ = some (.slice A l.length c) := fun v hv => (hv.cell lg).trans x1
    have D1 : Below v1.heap.size v1 v1.drew := (Below.refl _ _).drew
    have hct2 : ¬ m ≤ (cnt l : Int) := by omega
    go_wp2_with fail
    refine wp_region_noPanic ?_
    refine wp_region_held_drew (S := fun v => Below v1.heap.size v1 v) (by kernel_rfl) (D1) (fun hHeld => ?_)
    refine wpAnyH_take (i := 0) (oi := ⟨some 15, _, _, _, _, _⟩) (v := ?_) rfl (by kernel_rfl) (by kernel_rfl) (by kernel_rfl) (fun _ _ _ h => h) (Or.inl ⟨by rfl, ?_⟩) (by assumption) ?_
    rotate_left
    · intro w hSw; go_simp; first | done | with_reducible rfl
    try simp only [Act.put, List.setIfInBounds_toArray, List.set_cons_zero, List.set_cons_succ]
    refine wpAnyH_take (i := 1) (oi := ⟨some 16, _, _, _, _, _⟩) (v := ?_) rfl (by kernel_rfl) (by kernel_rfl) (by kernel_rfl) (fun _ _ _ h => h) (Or.inl ⟨by rfl, ?_⟩) (by assumption) ?_
    rotate_left
    · intro w hSw; go_simp; first | done | with_reducible rfl
    try simp only [Act.put, List.setIfInBounds_toArray, List.set_cons_zero, List.set_cons_succ]
    refine wpAnyH_take (i := 2) (oi := ⟨some 17, _, _, _, _, _⟩) (v := ?_) rfl (by kernel_rfl) (by kernel_rfl) (by kernel_rfl) (fun _ _ _ h => h) (Or.inl ⟨by rfl, ?_⟩) (by assumption) ?_
    rotate_left
    · intro w hSw; go_simp; first | done | with_reducible rfl
    try simp only [Act.put, List.setIfInBounds_toArray, List.set_cons_zero, List.set_cons_succ]
    refine wpAnyH_take (i := 3) (oi := ⟨some 18, _, _, _, _, _⟩) (v := ?_) rfl (by kernel_rfl) (by kernel_rfl) (by kernel_rfl) (fun _ _ _ h => h) (Or.inl ⟨by rfl, ?_⟩) (by assumption) ?_
    rotate_left
    · intro w hSw; go_simp; first | done | with_reducible rfl
    try simp only [Act.put, List.setIfInBounds_toArray, List.set_cons_zero, List.set_cons_succ]
    refine wpAnyH_take (i := 5) (oi := ⟨some 20, _, _, _, _, _⟩) (v := ?_) rfl (by kernel_rfl) (by kernel_rfl) (by kernel_rfl) (fun _ _ _ h => h) (Or.inl ⟨by rfl, ?_⟩) (by assumption) ?_
    rotate_left
    · intro w hSw; go_simp; first | done | with_reducible rfl
    try simp only [Act.put, List.setIfInBounds_toArray, List.set_cons_zero, List.set_cons_succ]
    refine wpAnyH_take (i := 6) (oi := ⟨some 21, _, _, _, _, _⟩) (v := ?_) rfl (by kernel_rfl) (by kernel_rfl) (by kernel_rfl) (fun _ _ _ h => h) (Or.inl ⟨by rfl, ?_⟩) (by assumption) ?_
    rotate_left
    · intro w hSw; go_simp; first | done | with_reducible rfl
    try simp only [Act.put, List.setIfInBounds_toArray, List.set_cons_zero, List.set_cons_succ]
    refine wpAnyH_ready (rs := [4]) (by kernel_rfl) (by simp) ?_
    refine AllReadyH.cons (o := ⟨some 19, _, _, _, _, _⟩) rfl (fun K hK => ?_) AllReadyH.nil
    go_simp
    refine (HLEN.out _ hHeld).mono ?_
    rintro q v2 ⟨rfl, hbu⟩
    have K2 : Below v1.heap.size v1 v2 := hHeld.trans (hbu.mono hHeld.size)
    go_simp
    refine hK.out _ _ (K2) (fun hHeld => ?_)
    clear hK K
    try simp only [Act.put, List.setIfInBounds_toArray, List.set_cons_zero, List.set_cons_succ]
    refine wpAnyH_take (i := 7) (oi := ⟨some 22, _, _, _, _, _⟩) (v := ?_) rfl (by kernel_rfl) (by kernel_rfl) (by kernel_rfl) (fun _ _ _ h => h) (Or.inl ⟨by rfl, ?_⟩) (by assumption) ?_
    rotate_left
    · intro w hSw; go_simp; first | done | with_reducible rfl
    try simp only [Act.put, List.setIfInBounds_toArray, List.set_cons_zero, List.set_cons_succ]
    refine wpAnyH_take (i := 8) (oi := ⟨some 23, _, _, _, _, _⟩) (v := ?_) rfl (by kernel_rfl) (by kernel_rfl) (by kernel_rfl) (fun _ _ _ h => h) (Or.inl ⟨by rfl, ?_⟩) (by assumption) ?_
    rotate_left
    · intro w hSw; go_simp; first | done | with_reducible rfl
    try simp only [Act.put, List.setIfInBounds_toArray, List.set_cons_zero, List.set_cons_succ]
    refine wpAnyH_done (by kernel_rfl) ?_ _
    refine NoPanic.normal ?_
    have HS2 := Lib.hid (HS1.out.below hHeld)
    have HR2 := Lib.hid (HR1.out.below hHeld (Nat.le_refl _))
    clear hHeld X0 X1 D1 x0 x1 xf0 xf1 z0 z1 zf0 zf1 lg lz
    obtain ⟨x0, x1, xf0, xf1⟩ := HS2.out.k.two
    obtain ⟨z0, z1, zf0, zf1⟩ := HS2.out.r.two
    have lg := HS2.out.k.lt
    have lz := HS2.out.r.lt
    have S1 := Lib.hid (HR2.out.r.src (P := Try.prog) Try.underlying29 (by omega) (nrL_one _))
    have hzv := HS2.out.z
    go_wp2_with (at_builtin; (refine wpList_mine rfl _ _ elN _ rfl rfl (Mine.nil (C + 2) 2 v2) _ rfl l.length _ S1.out (by omega) (by omega) hzv ?_))
    intro A1 c1 u1 m1 g1 q1
    have M1 : Hid (Mine (C + 2) 2 u1 A1 l.length c1 (nrL l)) := by show Mine _ _ _ _ _ _ _; first | exact m1 | (rw [Nat.zero_add, List.nil_append] at m1; exact m1)
    have B1 : Hid (Below v2.heap.size v2 u1) := (Below.refl _ _).grown (by exact g1) (Nat.le_refl _) (fun k e => by cases e)
    have HSu := Lib.hid (HS2.out.below B1.out)
    try simp only [Nat.zero_add]
    clear m1 g1 q1 x0 x1 xf0 xf1 z0 z1 zf0 zf1 lg lz
    obtain ⟨x0, x1, xf0, xf1⟩ := HSu.out.k.two
    obtain ⟨z0, z1, zf0, zf1⟩ := HSu.out.r.two
    have lg := HSu.out.k.lt
    have lz := HSu.out.r.lt
    obtain ⟨v3, hv3⟩ : ∃ v3, v3 = u1.setCell ⟨C, 1, none⟩ (.slice A1 l.length c1) := ⟨_, rfl⟩
    have HS3 : Hid (Sb m w C A1 l.length c1 v3) := by show Sb _ _ _ _ _ _ _; rw [hv3]; exact HSu.out.put A1 l.length c1
    have M3 : Hid (Mine (C + 2) 2 v3 A1 l.length c1 (nrL l)) := by
      show Mine _ _ _ _ _ _ _
      rw [hv3]
      exact M1.out.only (only_own (F := fun j => j = C) rfl _) (fun a ha e => by have := (M1.out.base ha).1; omega)
    go_upto_region 7 with fail
    rw [← hv3]
    clear hv3 x0 x1 xf0 xf1 z0 z1 zf0 zf1 lg lz
    have HLO : Hid (low l ≤ l.length) := low_le l
    have hlo := HLO.out
    go_wp2_with fail
    go_loopw [7] (fun s wr => ∃ j : Nat, j ≤ low l ∧ s = .int .i64 (j : Int) ∧ Below v3.heap.size v3 wr) (fun s _ => low l - (intOf s).toNat)
    case atStart => exact ⟨0, Nat.zero_le _, rfl, Below.refl _ _⟩
    case round =>
      obtain ⟨j, hj, rfl, hbw⟩ := hrel
      have HBW := Lib.hid hbw
      have HSw := Lib.hid (HS3.out.below hbw)
      have Mw := Lib.hid (M3.out.below hbw (Nat.le_refl _))
      have HH := Lib.hid (has_any (G := fun _ => True) m (j : Int) ⟨Rs.mine Mw.out, fun _ _ => trivial⟩)
      unfold tbV vPost at HH
      clear hbw
      obtain ⟨x0, x1, xf0, xf1⟩ := HSw.out.k.two
      obtain ⟨z0, z1, zf0, zf1⟩ := HSw.out.r.two
      have lg := HSw.out.k.lt
      have lz := HSw.out.r.lt
      by_cases hlt : j < low l
      · rw [decide_eq_true ((has_nat (by omega)).2 (low_has l j (by omega) hlt))] at HH
        go_wp2_with fail
        refine HH.out.mono ?_
        rintro q u5 ⟨rfl, hb⟩
        have HB5 := Lib.hid (HBW.out.trans (hb.mono HBW.out.size))
        clear hb
        go_wp2_with fail
        go_roundw
        case rel => exact ⟨j + 1, by omega, by simp, HB5.out⟩
        case measure => simp [intOf]; omega
      · obtain rfl : j = low l := by omega
        have hno : ¬ has l (low l : Int) := fun h => by
          have h1 := h.2.1
          exact low_no l (by omega) ((has_nat (by omega)).1 h)
        rw [decide_eq_false hno] at HH
        clear hno hlt
        go_wp2_with fail
        refine HH.out.mono ?_
        rintro q v4 ⟨rfl, hb⟩
        have HS4 := Lib.hid (HSw.out.below hb)
        have M4 := Lib.hid (Mw.out.below hb (Nat.le_refl _))
        clear hb HH x0 x1 xf0 xf1 z0 z1 zf0 zf1 lg lz
        obtain ⟨x0, x1, xf0, xf1⟩ := HS4.out.k.two
        obtain ⟨z0, z1, zf0, zf1⟩ := HS4.out.r.two
        have lg := HS4.out.k.lt
        have lz := HS4.out.r.lt
        obtain ⟨n, hn⟩ : ∃ n, n = low l := ⟨_, rfl⟩
        rw [← hn] at hlo hL ⊢
        have HNN := Lib.hid hn
        clear hn
        by_cases heq : n < l.length
        · have hne : ((n : Int) == (l.length : Int)) = false := by simp; omega
          have j1 : (n : Int) < (l.length : Int) := by omega
          go_upto_region 13 with fail
          have hnl : n < (l).length := by omega
          obtain ⟨gb, go, hgo, hgb, lgb⟩ := mine_place M4.out (by rw [nrL_len]; omega)
          subst hgo
          have hgi := nrL_get (l) n hnl
          have yf0 := (mine_cell M4.out hgi.1).2; have yf1 := (mine_cell M4.out hgi.2).2; have y0 := (mine_cell M4.out hgi.1).1; have y1 := (mine_cell M4.out hgi.2).1
          rw [← Nat.add_assoc] at y1 yf1
          clear hgi
          have M6 : Hid (Mine (C + 2) 2 ((v4.setCell ⟨gb, go + n * 2, none⟩ (.string k)).setCell ⟨gb, go + n * 2 + 1, none⟩ (.int .i64 0)) (some ⟨gb, go, none⟩) (l).length c1 (nrL ((l).set n ⟨k, 0⟩))) := by
            show Mine _ _ _ _ _ _ _
            have e := nrL_set (l) n hnl ⟨k, 0⟩
            have h1 := mine_put M4.out (n * 2) (.string k) (by rw [nrL_len]; omega) rfl
            have h2 := mine_put h1 (n * 2 + 1) (.int .i64 0) (by rw [List.length_set, nrL_len]; omega) rfl
            rw [e, Nat.add_assoc]
            exact h2
          have HS6 : Hid (Sb m w C (some ⟨gb, go, none⟩) l.length c1 ((v4.setCell ⟨gb, go + n * 2, none⟩ (.string k)).setCell ⟨gb, go + n * 2 + 1, none⟩ (.int .i64 0))) := (HS4.out.row (F := fun j => j = gb) (only_own (F := fun j => j = gb) rfl _) (fun j e => by omega)).row (F := fun j => j = gb) (only_own (F := fun j => j = gb) rfl _) (fun j e => by omega)
          obtain ⟨v6, hv6⟩ : ∃ v6, v6 = (v4.setCell ⟨gb, go + n * 2, none⟩ (.string k)).setCell ⟨gb, go + n * 2 + 1, none⟩ (.int .i64 0) := ⟨_, rfl⟩
          rw [← hv6] at M6 HS6
          go_upto_region 14 with fail
          rw [← hv6]
          clear hv6 y0 y1 yf0 yf1 x0 x1 xf0 xf1 z0 z1 zf0 zf1 lg lz
          obtain ⟨x0, x1, xf0, xf1⟩ := HS6.out.k.two
          obtain ⟨z0, z1, zf0, zf1⟩ := HS6.out.r.two
          have lg := HS6.out.k.lt
          have lz := HS6.out.r.lt
          have hnl2 : n < ((l).set n ⟨k, 0⟩).length := by rw [List.length_set]; exact hnl
          have hgi := nrL_get ((l).set n ⟨k, 0⟩) n hnl2
          simp only [List.getElem_set_self] at hgi
          have yf1 := (mine_cell M6.out hgi.2).2; have y1 := (mine_cell M6.out hgi.2).1
          rw [← Nat.add_assoc] at y1 yf1
          clear hgi
          have lg6 : gb < v6.heap.size := by have := (M6.out.base rfl).2.1; exact this
          have M7 : Hid (Mine (C + 2) 2 (v6.setCell ⟨gb, go + n * 2 + 1, none⟩ (.int .i64 1)) (some ⟨gb, go, none⟩) ((l).set n ⟨k, 1⟩).length c1 (nrL ((l).set n ⟨k, 1⟩))) := by
            show Mine _ _ _ _ _ _ _
            have e := nrL_setr hnl2 1
            simp only [List.getElem_set_self, List.set_set] at e
            rw [List.length_set, e, Nat.add_assoc]
            exact mine_put M6.out (n * 2 + 1) _ (by rw [nrL_len]; omega) rfl
          have HS7 : Hid (Sb m w C (some ⟨gb, go, none⟩) l.length c1 (v6.setCell ⟨gb, go + n * 2 + 1, none⟩ (.int .i64 1))) := HS6.out.row (F := fun j => j = gb) (only_own (F := fun j => j = gb) rfl _) (fun j e => by omega)
          obtain ⟨v7, hv7⟩ : ∃ v7, v7 = v6.setCell ⟨gb, go + n * 2 + 1, none⟩ (.int .i64 1) := ⟨_, rfl⟩
          rw [← hv7] at M7 HS7
          go_upto_region 15 with fail
          rw [← hv7]
          clear hv7 y1 yf1 x0 x1 xf0 xf1 z0 z1 zf0 zf1 lg lz
          obtain ⟨x0, x1, xf0, xf1⟩ := HS7.out.k.two
          obtain ⟨z0, z1, zf0, zf1⟩ := HS7.out.r.two
          have lg := HS7.out.k.lt
          have lz := HS7.out.r.lt
          have hLL : L = (l).set n ⟨k, 1⟩ := by rw [hL]; unfold putAt; rw [if_pos heq]
          clear hL
          subst hLL
          go_wp2_with fail
          have HN : Hid (Nx G w (put2 v7 (C + 1) (.int .i64 m) (.slice (some ⟨gb, go, none⟩) l.length c1)) _ (some ⟨gb, go, none⟩) c1) := fin_new M7.out HS7.out _ _
          have HQ9 : Hid (Blk (put2 v7 (C + 1) (.int .i64 m) (.slice (some ⟨gb, go, none⟩) l.length c1)) (C + 1) #[.int .i64 m, .slice (some ⟨gb, go, none⟩) l.length c1] 31) := put2_blk HS7.out.r _ _
          obtain ⟨v9, hv9⟩ : ∃ v9, v9 = put2 v7 (C + 1) (.int .i64 m) (.slice (some ⟨gb, go, none⟩) l.length c1) := ⟨_, rfl⟩
          rw [← hv9] at HN HQ9
          unfold put2 at hv9
          rw [← hv9]
          clear x0 x1 xf0 xf1 z0 z1 zf0 zf1 lg lz hv9
          obtain ⟨s0, s1, _⟩ := HQ9.out.two
          refine bodyPost_ret (v := .tuple #[.agg #[.int .i64 m, .slice (some ⟨gb, go, none⟩) l.length c1], .int .i64 (n : Int), .int .i64 0]) (by simp [results, Try.results13, go_sem, s0, s1]) rfl ⟨(some ⟨gb, go, none⟩), c1, ?_, HN.out⟩
          first | rfl | (rw [List.length_modify]; done) | (rw [List.length_set]; done) | (simp [HNN.out]; done)
        · have hne : ((n : Int) == (l.length : Int)) = true := by simp; omega
          have S4 := Lib.hid (src_nr v4)
          have M4b := Lib.hid (M4.out.below (bnew v4 (.cells #[.string ⟨#[]⟩, .int .i64 0] 72)) (Nat.le_refl _))
          have hz4 := HS4.out.z
          go_wp2_with (at_builtin; (refine wpList_mine rfl _ _ elN _ rfl rfl M4b.out _ rfl 1 _ S4.out (by omega) (by omega) (by simp; omega) ?_))
          intro A5 c5 u5 m5 g5 q5
          have M5 : Hid (Mine (C + 2) 2 u5 A5 (l ++ [zeroN]).length c5 (nrL (l ++ [zeroN]))) := by show Mine _ _ _ _ _ _ _; rw [nrL_append, List.length_append]; exact m5
          have O5 : Only (fun j => C + 2 ≤ j) v4 u5 := (Only.of_below (bnew v4 _) (Nat.le_refl _) _).trans ((only_row (F := fun j => C + 2 ≤ j) g5 (fun a ha => (M4.out.base ha).1)).mono fun _ _ h => Or.inl h)
          have HS5 := Lib.hid (HS4.out.row O5 (fun j h => h))
          clear m5 g5 q5 O5 x0 x1 xf0 xf1 z0 z1 zf0 zf1 lg lz
          obtain ⟨x0, x1, xf0, xf1⟩ := HS5.out.k.two
          obtain ⟨z0, z1, zf0, zf1⟩ := HS5.out.r.two
          have lg := HS5.out.k.lt
          have lz := HS5.out.r.lt
          have hle5 : (l ++ [zeroN]).length = l.length + 1 := by simp
          have HLE5 := Lib.hid hle5
          obtain ⟨v5, hv5⟩ : ∃ v5, v5 = u5.setCell ⟨C, 1, none⟩ (.slice A5 (l.length + 1) c5) := ⟨_, rfl⟩
          have HS5b : Hid (Sb m w C A5 (l.length + 1) c5 v5) := by show Sb _ _ _ _ _ _ _; rw [hv5]; exact HS5.out.put A5 (l.length + 1) c5
          have M5b : Hid (Mine (C + 2) 2 v5 A5 (l ++ [zeroN]).length c5 (nrL (l ++ [zeroN]))) := by
            show Mine _ _ _ _ _ _ _
            rw [hv5]
            exact M5.out.only (only_own (F := fun j => j = C) rfl _) (fun a ha e => by have := (M5.out.base ha).1; omega)
          clear hle5
          have j1 : (n : Int) < (l.length : Int) + 1 := by omega
          go_upto_region 13 with fail
          rw [← hv5]
          clear hv5 x0 x1 xf0 xf1 z0 z1 zf0 zf1 lg lz
          obtain ⟨x0, x1, xf0, xf1⟩ := HS5b.out.k.two
          obtain ⟨z0, z1, zf0, zf1⟩ := HS5b.out.r.two
          have lg := HS5b.out.k.lt
          have lz := HS5b.out.r.lt
          have hnl : n < (l ++ [zeroN]).length := by rw [List.length_append]; simp; omega
          obtain ⟨gb, go, hgo, hgb, lgb⟩ := mine_place M5b.out (by rw [nrL_len]; omega)
          subst hgo
          have hgi := nrL_get (l ++ [zeroN]) n hnl
          have yf0 := (mine_cell M5b.out hgi.1).2; have yf1 := (mine_cell M5b.out hgi.2).2; have y0 := (mine_cell M5b.out hgi.1).1; have y1 := (mine_cell M5b.out hgi.2).1
          rw [← Nat.add_assoc] at y1 yf1
          clear hgi
          have M6 : Hid (Mine (C + 2) 2 ((v5.setCell ⟨gb, go + n * 2, none⟩ (.string k)).setCell ⟨gb, go + n * 2 + 1, none⟩ (.int .i64 0)) (some ⟨gb, go, none⟩) (l ++ [zeroN]).length c5 (nrL ((l ++ [zeroN]).set n ⟨k, 0⟩))) := by
            show Mine _ _ _ _ _ _ _
            have e := nrL_set (l ++ [zeroN]) n hnl ⟨k, 0⟩
            have h1 := mine_put M5b.out (n * 2) (.string k) (by rw [nrL_len]; omega) rfl
            have h2 := mine_put h1 (n * 2 + 1) (.int .i64 0) (by rw [List.length_set, nrL_len]; omega) rfl
            rw [e, Nat.add_assoc]
            exact h2
          have HS6 : Hid (Sb m w C (some ⟨gb, go, none⟩) (l.length + 1) c5 ((v5.setCell ⟨gb, go + n * 2, none⟩ (.string k)).setCell ⟨gb, go + n * 2 + 1, none⟩ (.int .i64 0))) := (HS5b.out.row (F := fun j => j = gb) (only_own (F := fun j => j = gb) rfl _) (fun j e => by omega)).row (F := fun j => j = gb) (only_own (F := fun j => j = gb) rfl _) (fun j e => by omega)
          obtain ⟨v6, hv6⟩ : ∃ v6, v6 = (v5.setCell ⟨gb, go + n * 2, none⟩ (.string k)).setCell ⟨gb, go + n * 2 + 1, none⟩ (.int .i64 0) := ⟨_, rfl⟩
          rw [← hv6] at M6 HS6
          go_upto_region 14 with fail
          rw [← hv6]
          clear hv6 y0 y1 yf0 yf1 x0 x1 xf0 xf1 z0 z1 zf0 zf1 lg lz
          obtain ⟨x0, x1, xf0, xf1⟩ := HS6.out.k.two
          obtain ⟨z0, z1, zf0, zf1⟩ := HS6.out.r.two
          have lg := HS6.out.k.lt
          have lz := HS6.out.r.lt
          have hnl2 : n < ((l ++ [zeroN]).set n ⟨k, 0⟩).length := by rw [List.length_set]; exact hnl
          have hgi := nrL_get ((l ++ [zeroN]).set n ⟨k, 0⟩) n hnl2
          simp only [List.getElem_set_self] at hgi
          have yf1 := (mine_cell M6.out hgi.2).2; have y1 := (mine_cell M6.out hgi.2).1
          rw [← Nat.add_assoc] at y1 yf1
          clear hgi
          have lg6 : gb < v6.heap.size := by have := (M6.out.base rfl).2.1; exact this
          have M7 : Hid (Mine (C + 2) 2 (v6.setCell ⟨gb, go + n * 2 + 1, none⟩ (.int .i64 1)) (some ⟨gb, go, none⟩) ((l ++ [zeroN]).set n ⟨k, 1⟩).length c5 (nrL ((l ++ [zeroN]).set n ⟨k, 1⟩))) := by
            show Mine _ _ _ _ _ _ _
            have e := nrL_setr hnl2 1
            simp only [List.getElem_set_self, List.set_set] at e
            rw [List.length_set, e, Nat.add_assoc]
            exact mine_put M6.out (n * 2 + 1) _ (by rw [nrL_len]; omega) rfl
          have HS7 : Hid (Sb m w C (some ⟨gb, go, none⟩) (l.length + 1) c5 (v6.setCell ⟨gb, go + n * 2 + 1, none⟩ (.int .i64 1))) := HS6.out.row (F := fun j => j = gb) (only_own (F := fun j => j = gb) rfl _) (fun j e => by omega)
          obtain ⟨v7, hv7⟩ : ∃ v7, v7 = v6.setCell ⟨gb, go + n * 2 + 1, none⟩ (.int .i64 1) := ⟨_, rfl⟩
          rw [← hv7] at M7 HS7
          go_upto_region 15 with fail
          rw [← hv7]
          clear hv7 y1 yf1 x0 x1 xf0 xf1 z0 z1 zf0 zf1 lg lz
          obtain ⟨x0, x1, xf0, xf1⟩ := HS7.out.k.two
          obtain ⟨z0, z1, zf0, zf1⟩ := HS7.out.r.two
          have lg := HS7.out.k.lt
          have lz := HS7.out.r.lt
          have hLL : L = (l ++ [zeroN]).set n ⟨k, 1⟩ := by rw [hL]; unfold putAt; rw [if_neg heq]; obtain rfl : n = l.length := (by omega); simp
          clear hL
          subst hLL
          go_wp2_with fail
          have HN : Hid (Nx G w (put2 v7 (C + 1) (.int .i64 m) (.slice (some ⟨gb, go, none⟩) (l.length + 1) c5)) _ (some ⟨gb, go, none⟩) c5) := fin_new M7.out HS7.out _ _
          have HQ9 : Hid (Blk (put2 v7 (C + 1) (.int .i64 m) (.slice (some ⟨gb, go, none⟩) (l.length + 1) c5)) (C + 1) #[.int .i64 m, .slice (some ⟨gb, go, none⟩) (l.length + 1) c5] 31) := put2_blk HS7.out.r _ _
          obtain ⟨v9, hv9⟩ : ∃ v9, v9 = put2 v7 (C + 1) (.int .i64 m) (.slice (some ⟨gb, go, none⟩) (l.length + 1) c5) := ⟨_, rfl⟩
          rw [← hv9] at HN HQ9
          unfold put2 at hv9
          rw [← hv9]
          clear x0 x1 xf0 xf1 z0 z1 zf0 zf1 lg lz hv9
          obtain ⟨s0, s1, _⟩ := HQ9.out.two
          refine bodyPost_ret (v := .tuple #[.agg #[.int .i64 m, .slice (some ⟨gb, go, none⟩) (l.length + 1) c5], .int .i64 (n : Int), .int .i64 0]) (by simp [results, Try.results13, go_sem, s0, s1]) rfl ⟨(some ⟨gb, go, none⟩), c5, ?_, HN.out⟩
          first | rfl | (rw [List.length_modify]; done) | (rw [List.length_set]; done) | (simp [HNN.out]; done)
  · rw [decide_eq_true hk] at HV
    have hfn := hfi
    have hfI : fndI l k = (i : Int) := by unfold fndI; rw [hfn]
    rw [hfI] at HF
    clear hfI
    clear HA hk hfn hfi
    go_enter Try.func13, Try.ntmps13
    go_upto_region 1 with fail
    rw [← hv0, ← hC]
    clear hv0
    have HC := Lib.hid hC
    clear hC
    go_wp2_with fail
    refine HV.out.mono ?_
    rintro q v1 ⟨rfl, hv1⟩
    have hv2 := hv1.symm
    clear hv1
    subst hv2
    clear HV
    go_wp2_with fail
    refine HF.out.mono ?_
    rintro q v1 ⟨rfl, hb⟩
    have HS1 := Lib.hid (HS0.out.below hb)
    have HR1 := Lib.hid (HR0.out.below hb (Nat.le_refl _))
    clear hb x0 x1 xf0 xf1 z0 z1 zf0 zf1 lg lz
    obtain ⟨x0, x1, xf0, xf1⟩ := HS1.out.k.two
    obtain ⟨z0, z1, zf0, zf1⟩ := HS1.out.r.two
    have lg := HS1.out.k.lt
    have lz := HS1.out.r.lt
    have d0 : decide ((i : Int) < 0) = false := by simp
    have i0 : ¬ (i : Int) < 0 := by omega
    go_wp2_with fail
    go_quiet (fail)
    obtain ⟨v2, hvq⟩ : ∃ v2, v2 = v1.drewN nq := ⟨_, rfl⟩
    have hbq : Below v1.heap.size v1 v2 := by rw [hvq]; exact below_drewN (Below.refl _ _) nq
    rw [← hvq]
    clear hvq
    have HS2 := Lib.hid (HS1.out.below hbq)
    have HR2 := Lib.hid (HR1.out.below hbq (Nat.le_refl _))
    clear hbq x0 x1 xf0 xf1 z0 z1 zf0 zf1 lg lz
    obtain ⟨x0, x1, xf0, xf1⟩ := HS2.out.k.two
    obtain ⟨z0, z1, zf0, zf1⟩ := HS2.out.r.two
    have lg := HS2.out.k.lt
    have lz := HS2.out.r.lt
    have HI := Lib.hid hi
    have S1 := Lib.hid (HR2.out.r.src (P := Try.prog) Try.underlying29 (by omega) (nrL_one _))
    have hzv := HS2.out.z
    go_wp2_with (at_builtin; (refine wpList_mine rfl _ _ elN _ rfl rfl (Mine.nil (C + 2) 2 v2) _ rfl l.length _ S1.out (by omega) (by omega) hzv ?_))
    intro A1 c1 u1 m1 g1 q1
    have M1 : Hid (Mine (C + 2) 2 u1 A1 l.length c1 (nrL l)) := by show Mine _ _ _ _ _ _ _; first | exact m1 | (rw [Nat.zero_add, List.nil_append] at m1; exact m1)
    have B1 : Hid (Below v2.heap.size v2 u1) := (Below.refl _ _).grown (by exact g1) (Nat.le_refl _) (fun k e => by cases e)
    have HSu := Lib.hid (HS2.out.below B1.out)
    try simp only [Nat.zero_add]
    clear m1 g1 q1 x0 x1 xf0 xf1 z0 z1 zf0 zf1 lg lz
    obtain ⟨x0, x1, xf0, xf1⟩ := HSu.out.k.two
    obtain ⟨z0, z1, zf0, zf1⟩ := HSu.out.r.two
    have lg := HSu.out.k.lt
    have lz := HSu.out.r.lt
    obtain ⟨v3, hv3⟩ : ∃ v3, v3 = u1.setCell ⟨C, 1, none⟩ (.slice A1 l.length c1) := ⟨_, rfl⟩
    have HS3 : Hid (Sb m w C A1 l.length c1 v3) := by show Sb _ _ _ _ _ _ _; rw [hv3]; exact HSu.out.put A1 l.length c1
    have M3 : Hid (Mine (C + 2) 2 v3 A1 l.length c1 (nrL l)) := by
      show Mine _ _ _ _ _ _ _
      rw [hv3]
      exact M1.out.only (only_own (F := fun j => j = C) rfl _) (fun a ha e => by have := (M1.out.base ha).1; omega)
    have j1 : (i : Int) < (l.length : Int) := by omega
    go_upto_region 14 with fail
    rw [← hv3]
    clear hv3 x0 x1 xf0 xf1 z0 z1 zf0 zf1 lg lz
    obtain ⟨x0, x1, xf0, xf1⟩ := HS3.out.k.two
    obtain ⟨z0, z1, zf0, zf1⟩ := HS3.out.r.two
    have lg := HS3.out.k.lt
    have lz := HS3.out.r.lt
    obtain ⟨gb, go, hgo, hgb, lgb⟩ := mine_place M3.out (by rw [nrL_len]; omega)
    subst hgo
    have hgi := nrL_get l i (by exact hi)
    have y0 := (mine_cell M3.out hgi.1).1; have yf0 := (mine_cell M3.out hgi.1).2; have y1 := (mine_cell M3.out hgi.2).1; have yf1 := (mine_cell M3.out hgi.2).2
    rw [← Nat.add_assoc] at y1 yf1
    clear hgi
    obtain ⟨x, hx⟩ : ∃ x, x = l[i]'hi := ⟨_, rfl⟩
    have hxr : x.r ≤ 1099511627776 := by rw [hx]; exact (HFN.out _ (List.getElem_mem hi)).2.1
    have hx0 : 0 ≤ x.r := by rw [hx]; exact (HFN.out _ (List.getElem_mem hi)).1
    have hx2 := hx.symm
    simp only [hx2] at y0 y1
    clear hx2
    have HX := Lib.hid hx
    have M4 : Hid (Mine (C + 2) 2 (v3.setCell ⟨gb, go + i * 2 + 1, none⟩ (.int .i64 (x.r + 1))) (some ⟨gb, go, none⟩) (l.set i { x with r := x.r + 1 }).length c1 (nrL (l.set i { x with r := x.r + 1 }))) := by
      show Mine _ _ _ _ _ _ _
      rw [List.length_set, hx, nrL_setr hi, Nat.add_assoc]
      exact mine_put M3.out (i * 2 + 1) _ (by rw [nrL_len]; omega) rfl
    have HS4 : Hid (Sb m w C (some ⟨gb, go, none⟩) l.length c1 (v3.setCell ⟨gb, go + i * 2 + 1, none⟩ (.int .i64 (x.r + 1)))) := HS3.out.row (F := fun j => j = gb) (only_own (F := fun j => j = gb) rfl _) (fun j e => by omega)
    obtain ⟨v4, hv4⟩ : ∃ v4, v4 = v3.setCell ⟨gb, go + i * 2 + 1, none⟩ (.int .i64 (x.r + 1)) := ⟨_, rfl⟩
    rw [← hv4] at M4 HS4
    clear hx
    go_upto_region 15 with fail
    rw [← hv4]
    clear hv4 y0 y1 yf0 yf1 x0 x1 xf0 xf1 z0 z1 zf0 zf1 lg lz
    obtain ⟨x0, x1, xf0, xf1⟩ := HS4.out.k.two
    obtain ⟨z0, z1, zf0, zf1⟩ := HS4.out.r.two
    have lg := HS4.out.k.lt
    have lz := HS4.out.r.lt
    subst hL
    go_wp2_with fail
    have HN : Hid (Nx G w (put2 v4 (C + 1) (.int .i64 m) (.slice (some ⟨gb, go, none⟩) l.length c1)) (l.modify i fun x => { x with r := x.r + 1 }) (some ⟨gb, go, none⟩) c1) := by rw [modify_set HI.out, ← HX.out]; exact fin_new M4.out HS4.out _ _
    have HQ9 : Hid (Blk (put2 v4 (C + 1) (.int .i64 m) (.slice (some ⟨gb, go, none⟩) l.length c1)) (C + 1) #[.int .i64 m, .slice (some ⟨gb, go, none⟩) l.length c1] 31) := put2_blk HS4.out.r _ _
    obtain ⟨v9, hv9⟩ : ∃ v9, v9 = put2 v4 (C + 1) (.int .i64 m) (.slice (some ⟨gb, go, none⟩) l.length c1) := ⟨_, rfl⟩
    rw [← hv9] at HN HQ9
    unfold put2 at hv9
    rw [← hv9]
    clear x0 x1 xf0 xf1 z0 z1 zf0 zf1 lg lz hv9
    obtain ⟨s0, s1, _⟩ := HQ9.out.two
    refine bodyPost_ret (v := .tuple #[.agg #[.int .i64 m, .slice (some ⟨gb, go, none⟩) l.length c1], .int .i64 (i : Int), .int .i64 0]) (by simp [results, Try.results13, go_sem, s0, s1]) rfl ⟨(some ⟨gb, go, none⟩), c1, ?_, HN.out⟩
    first | rfl | (rw [List.length_modify]; done) | (rw [List.length_set]; done) | (simp [HNN.out]; done)
end
end Go.Proofs.Ytmhbfplpodikiaa.Ae
