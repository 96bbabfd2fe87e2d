/- Proves what the law's call of one method on both tables returns and leaves. Conditions: as each theorem names them. -/
import Derived.Test.YthabnffmlgppdaaPp
import Derived.Deep.Cut
namespace Go.Proofs.Ythabnffmlgppdaa.Pq
open Go.RowKit Ap Mi Nw Rg Hm Tm Tn Ta Tb Pm Pa Pb Pc Pd Pe Pf Pg Ph Pn Pj Pp
open Tf (okK okK_spec Gets Puts rput_any rget_any tabPost)
open Tg (Sets rset_any)
open Th (Dels rdel_any)
open To (putT delT putN put_good set_good del_good)

/-- The table in block g, and the specification's one as slices, in the same state and apart. -/
structure Both (N : Nat) (w : World) (F : Nat → Prop) (g : Nat) (seed : Int) (c : List (Cell Key)) (X : Option Addr) (p : Nat) (Y : Option Addr) (q : Nat) : Prop where
  t : Pt F w g seed c
  s : Tb w c X p Y q
  fl : ∀ j, F j → N ≤ j ∧ j < w.heap.size
  xF : ∀ a, X = some a → ¬ F a.block ∧ a.block < w.heap.size
  yF : ∀ a, Y = some a → ¬ F a.block ∧ a.block < w.heap.size
theorem tb_only {w w' : World} {c : List (Cell Key)} {X Y : Option Addr} {p q : Nat} {H : Nat → Prop} (h : Tb w c X p Y q) (ho : Only H w w') (hX : ∀ a, X = some a → ¬ H a.block) (hY : ∀ a, Y = some a → ¬ H a.block) : Tb w' c X p Y q := ⟨h.ks.only ho hX, h.ns.only ho hY⟩
theorem tb_lt {w : World} {c : List (Cell Key)} {X Y : Option Addr} {p q : Nat} (h : Tb w c X p Y q) (hc : 0 < c.length) : (∀ a, X = some a → a.block < w.heap.size) ∧ ∀ a, Y = some a → a.block < w.heap.size := by
  refine ⟨fun a ha => ?_, fun a ha => ?_⟩
  · obtain ⟨b, o, e, hlt, _⟩ := h.ks.rd (by rw [kc_len]; exact hc)
    rw [ha] at e; injection e with e; rw [e]; exact hlt
  · obtain ⟨b, o, e, hlt, _⟩ := h.ns.rd (by rw [nc_len]; exact hc)
    rw [ha] at e; injection e with e; rw [e]; exact hlt
section
variable {N : Nat} {w w' : World} {F H : Nat → Prop} {g : Nat} {seed : Int} {c : List (Cell Key)} {X Y : Option Addr} {p q : Nat}
theorem Both.only (h : Both N w F g seed c X p Y q) (ho : Only H w w') (hF : ∀ j, H j → ¬ F j) (hX : ∀ a, X = some a → ¬ H a.block) (hY : ∀ a, Y = some a → ¬ H a.block) : Both N w' F g seed c X p Y q :=
  have hz := ho.size
  ⟨h.t.only ho (fun j hf hh => hF j hh hf), tb_only h.s ho hX hY, fun j hf => ⟨(h.fl j hf).1, Nat.lt_of_lt_of_le (h.fl j hf).2 hz⟩, fun a ha => ⟨(h.xF a ha).1, Nat.lt_of_lt_of_le (h.xF a ha).2 hz⟩, fun a ha => ⟨(h.yF a ha).1, Nat.lt_of_lt_of_le (h.yF a ha).2 hz⟩⟩
theorem Both.below {B : Nat} (h : Both N w F g seed c X p Y q) (hb : Below B w w') (hB : w.heap.size ≤ B) : Both N w' F g seed c X p Y q :=
  h.only (Only.of_below hb hB (fun _ => False)) (fun _ hf => hf.elim) (fun _ _ hf => hf) (fun _ _ hf => hf)
/-- The program's table after a call that may make memory, the specification's one made before or after. -/
theorem Both.join {v : World} {c' : List (Cell Key)} {X' Y' : Option Addr} {p' q' L M : Nat} (h : Both N w F g seed c X p Y q) (hN : N ≤ w.heap.size) (t : Pt (fun j => (F j ∨ L ≤ j) ∧ j < M) v g seed c') (s : Tb v c' X' p' Y' q') (hL : w.heap.size ≤ L) (hM : M ≤ v.heap.size)
    (hX : ∀ a, X' = some a → X = some a ∨ (w.heap.size ≤ a.block ∧ (a.block < L ∨ M ≤ a.block))) (hY : ∀ a, Y' = some a → Y = some a ∨ (w.heap.size ≤ a.block ∧ (a.block < L ∨ M ≤ a.block))) (hc : 0 < c'.length) : Both N v (fun j => (F j ∨ L ≤ j) ∧ j < M) g seed c' X' p' Y' q' := by
  obtain ⟨l1, l2⟩ := tb_lt s hc
  refine ⟨t, s, fun j hj => ⟨?_, by have := hj.2; omega⟩, fun a ha => ⟨fun hf => ?_, l1 a ha⟩, fun a ha => ⟨fun hf => ?_, l2 a ha⟩⟩
  · rcases hj.1 with hf | hf
    · exact (h.fl j hf).1
    · omega
  · rcases hX a ha with h1 | ⟨h1, h2⟩
    · have h3 := h.xF a h1
      rcases hf.1 with hf | hf
      · exact h3.1 hf
      · omega
    · rcases hf.1 with hf1 | hf1
      · have := (h.fl _ hf1).2; omega
      · have := hf.2; omega
  · rcases hY a ha with h1 | ⟨h1, h2⟩
    · have h3 := h.yF a h1
      rcases hf.1 with hf | hf
      · exact h3.1 hf
      · omega
    · rcases hf.1 with hf1 | hf1
      · have := (h.fl _ hf1).2; omega
      · have := hf.2; omega
end
section
variable {seed : Int} {c : List (Cell Key)}
theorem not_in {k : Key} (h : ¬ ∃ y, some (k, y) ∈ c) : ∀ y, some (k, y) ∉ c := fun y hy => h ⟨y, hy⟩
theorem puts_ex (g : To.Good (hom seed) c) (k : Key) (n : Int) : ∃ c' e, Puts seed c k n c' e ∧ cnt c' ≤ cnt c + 1 := by
  by_cases h1 : okK k = true
  · by_cases h2 : 0 ≤ n
    · by_cases h3 : ∃ y, some (k, y) ∈ c
      · obtain ⟨y, hy⟩ := h3
        obtain ⟨i, hi⟩ := List.mem_iff_getElem?.1 hy
        exact ⟨c, 11, Or.inr (Or.inl ⟨h1, h2, ⟨i, y, hi⟩, rfl, rfl⟩), by omega⟩
      · exact ⟨_, 0, Or.inr (Or.inr ⟨h1, ⟨n.toNat, by omega, rfl⟩, not_in h3, rfl⟩), by rw [(put_good g (not_in h3) n.toNat).2.2.1]; exact Nat.le_refl _⟩
    · exact ⟨c, 2, Or.inl ⟨Or.inr (by omega), rfl, rfl⟩, by omega⟩
  · exact ⟨c, 2, Or.inl ⟨Or.inl (by simpa using h1), rfl, rfl⟩, by omega⟩
theorem gets_ex (k : Key) : ∃ n e, Gets c k n e := by
  by_cases h1 : okK k = true
  · by_cases h3 : ∃ y, some (k, y) ∈ c
    · obtain ⟨y, hy⟩ := h3
      obtain ⟨i, hi⟩ := List.mem_iff_getElem?.1 hy
      exact ⟨y, 0, Or.inr (Or.inl ⟨h1, ⟨i, y, hi, rfl⟩, rfl⟩)⟩
    · exact ⟨0, 9, Or.inr (Or.inr ⟨h1, not_in h3, rfl, rfl⟩)⟩
  · exact ⟨0, 2, Or.inl ⟨by simpa using h1, rfl, rfl⟩⟩
theorem sets_ex (g : To.Good (hom seed) c) (k : Key) (n : Int) : ∃ c' m e, Sets c k n c' m e ∧ cnt c' ≤ cnt c + 1 := by
  by_cases h1 : okK k = true
  · by_cases h2 : 0 ≤ n
    · by_cases h3 : ∃ y, some (k, y) ∈ c
      · obtain ⟨y, hy⟩ := h3
        obtain ⟨i, hi⟩ := List.mem_iff_getElem?.1 hy
        exact ⟨_, y, 0, Or.inr (Or.inr ⟨h1, ⟨i, n.toNat, y, hi, by omega, rfl, rfl⟩, rfl⟩), by rw [(set_good g hi n.toNat).2.2.1]; omega⟩
      · exact ⟨c, 0, 9, Or.inr (Or.inl ⟨h1, h2, not_in h3, rfl, rfl, rfl⟩), by omega⟩
    · exact ⟨c, 0, 2, Or.inl ⟨Or.inr (by omega), rfl, rfl, rfl⟩, by omega⟩
  · exact ⟨c, 0, 2, Or.inl ⟨Or.inl (by simpa using h1), rfl, rfl, rfl⟩, by omega⟩
theorem dels_ex (g : To.Good (hom seed) c) (k : Key) : ∃ c' m e, Dels seed c k c' m e ∧ cnt c' ≤ cnt c + 1 := by
  by_cases h1 : okK k = true
  · by_cases h3 : ∃ y, some (k, y) ∈ c
    · obtain ⟨y, hy⟩ := h3
      obtain ⟨i, hi⟩ := List.mem_iff_getElem?.1 hy
      exact ⟨_, y, 0, Or.inr ⟨h1, ⟨i, y, hi, rfl, rfl⟩, rfl⟩, by have := (del_good g hi).2.2.1; omega⟩
    · exact ⟨c, 0, 9, Or.inl ⟨rfl, rfl, Or.inr (Or.inr ⟨h1, not_in h3, rfl, rfl⟩), by omega⟩, by omega⟩
  · exact ⟨c, 0, 2, Or.inl ⟨rfl, rfl, Or.inl ⟨by simpa using h1, rfl, rfl⟩, by omega⟩, by omega⟩
end
/-- What the call leaves. -/
def doPost (N : Nat) (w : World) (F : Nat → Prop) (seed : Int) (c : List (Cell Key)) (X Y : Option Addr) : Ending → World → Prop := fun r w' =>
  ∃ g' F' c' X' p' Y' q', r = .returned (.tuple #[.pointer (some ⟨g', 0, none⟩), .agg #[.int .u64 seed, .slice X' c'.length p', .slice Y' c'.length q'], .bool true]) ∧ cnt c' ≤ cnt c + 1 ∧
    Both N w' F' g' seed c' X' p' Y' q' ∧ Only F w w' ∧ (∀ a, X' = some a → X = some a ∨ w.heap.size ≤ a.block) ∧ (∀ a, Y' = some a → Y = some a ∨ w.heap.size ≤ a.block) ∧ ∀ j, F' j → F j ∨ w.heap.size ≤ j
/-- Three cells of a block of the call's own are written. -/
theorem three_only {w : World} {b : Nat} (v0 v1 v2 : Value) : Only (fun j => j = b) w (((w.setCell ⟨b, 0, none⟩ v0).setCell ⟨b, 1, none⟩ v1).setCell ⟨b, 2, none⟩ v2) :=
  (((Only.refl (fun j => j = b) w).put (ad := ⟨b, 0, none⟩) rfl _).put (ad := ⟨b, 1, none⟩) rfl _).put (ad := ⟨b, 2, none⟩) rfl _
set_option maxRecDepth 100000 in
set_option maxHeartbeats 4000000 in
theorem do0 {N : Nat} {w : World} {F : Nat → Prop} {g : Nat} {seed : Int} {c : List (Cell Key)} {X Y : Option Addr} {p q : Nat} (h : Both N w F g seed c X p Y q) (hN : N ≤ w.heap.size) (hn : c.length ≤ 10000) (k : Key) (hk : k.length ≤ 300) (n : Int) (hx : n ≤ 9223372036854775807) :
    Calls Try.prog 12 #[.pointer (some ⟨g, 0, none⟩), .agg #[.int .u64 seed, .slice X c.length p, .slice Y c.length q], .agg #[.int .i64 0, .string ⟨k.toArray⟩, .int .i64 n]] w (doPost N w F seed c X Y) := by
  obtain ⟨w0, hw0⟩ : ∃ w0, w0 = ((w.alloc (.cells #[.int .u64 seed, .slice X c.length p, .slice Y c.length q] 31)).alloc (.cells #[.int .i64 0, .string ⟨k.toArray⟩, .int .i64 n] 34)).alloc (.cells #[.int .u64 0, .slice none 0 0, .slice none 0 0] 31) := ⟨_, rfl⟩
  have b0 : Below w.heap.size w w0 := by rw [hw0]; exact ((bnew w _).alloc (by simp) _).alloc (by simp; omega) _
  have p0 : Blk w0 w.heap.size #[.int .u64 seed, .slice X c.length p, .slice Y c.length q] 31 := by rw [hw0]; exact ((Blk.new w _ _).below (bnew _ _) (by simp)).below (bnew _ _) (by simp; omega)
  have p1 : Blk w0 (w.heap.size + 1) #[.int .i64 0, .string ⟨k.toArray⟩, .int .i64 n] 34 := by
    have h := Blk.new (w.alloc (.cells #[.int .u64 seed, .slice X c.length p, .slice Y c.length q] 31)) #[.int .i64 0, .string ⟨k.toArray⟩, .int .i64 n] 34
    rw [show (w.alloc (.cells #[.int .u64 seed, .slice X c.length p, .slice Y c.length q] 31)).heap.size = w.heap.size + 1 by simp] at h
    rw [hw0]; exact h.below (bnew _ _) (by simp)
  have p2 : Blk w0 (w.heap.size + 1 + 1) #[.int .u64 0, .slice none 0 0, .slice none 0 0] 31 := by
    have h := Blk.new ((w.alloc (.cells #[.int .u64 seed, .slice X c.length p, .slice Y c.length q] 31)).alloc (.cells #[.int .i64 0, .string ⟨k.toArray⟩, .int .i64 n] 34)) #[.int .u64 0, .slice none 0 0, .slice none 0 0] 31
    rw [hw0]; simpa using h
  have hz0 : w.heap.size + 1 + 1 < w0.heap.size := p2.lt
  have HB0 := Lib.hid b0; have P0 := Lib.hid p0; have P1 := Lib.hid p1; have P2 := Lib.hid p2
  have HO := Lib.hid h
  have H0 := Lib.hid (h.below b0 (Nat.le_refl _))
  have HFL : Hid (∀ j, F j → j < w.heap.size) := fun j hj => (HO.out.fl j hj).2
  have HKY := Lib.hid h.t.pl.kys; have HSD := Lib.hid h.t.pl.sd; have HGD := Lib.hid h.t.good
  obtain ⟨y0, y1, y2, _⟩ := p1.three
  unfold doPost
  have hu := And.intro hN (And.intro hn (And.intro hk hx))
  clear h b0 p0 p1 p2 hu
  obtain ⟨c1, e, hP, hc1⟩ := puts_ex HGD.out k n
  have HCN := Lib.hid hc1
  have HC := Lib.hid (put_any H0.out.t k (by omega) (by omega) hx hP)
  have HPU := Lib.hid hP
  unfold putPost at HC
  clear hP hc1
  go_enter Try.func12, Try.ntmps12
  go_wp2_with fail
  rw [← hw0]
  clear hw0 y0 y1 y2
  refine HC.out.mono ?_
  rintro r w1 ⟨rfl, ht, ho⟩
  have HT1 := Lib.hid ht.tight; have HO1 := Lib.hid ho
  have S1 := Lib.hid (tb_only H0.out.s ho (fun a ha => (H0.out.xF a ha).1) (fun a ha => (H0.out.yF a ha).1))
  have Q0 := Lib.hid (P0.out.only ho (fun hf => by have := HFL.out _ hf; omega)); have Q1 := Lib.hid (P1.out.only ho (fun hf => by have := HFL.out _ hf; omega)); have Q2 := Lib.hid (P2.out.only ho (fun hf => by have := HFL.out _ hf; omega))
  have hz1 : w0.heap.size ≤ w1.heap.size := ho.size
  have HR := Lib.hid (rput_any S1.out HGD.out HKY.out HSD.out k (by omega) (by omega) HPU.out)
  unfold tabPost at HR
  obtain ⟨a0, a1, a2, _⟩ := Q0.out.three
  obtain ⟨y0, y1, y2, _⟩ := Q1.out.three
  have hc1l : 0 < c1.length := by have := HT1.out.good.lo; omega
  clear ht ho HC
  go_wp2_with fail
  refine HR.out.mono ?_
  rintro r w2 ⟨X1, p1, Y1, q1, rfl, hs, hb, fx, fy⟩
  have TT := Lib.hid (HT1.out.below hb (Nat.le_refl _))
  have SS := Lib.hid hs
  have R2 := Lib.hid (Q2.out.below hb Q2.out.lt)
  have hz2 : w1.heap.size ≤ w2.heap.size := hb.size
  have FX : Hid (∀ a, X1 = some a → X = some a ∨ w.heap.size ≤ a.block) := fun a ha => (fx a ha).imp id (fun h => by omega)
  have FY : Hid (∀ a, Y1 = some a → Y = some a ∨ w.heap.size ≤ a.block) := fun a ha => (fy a ha).imp id (fun h => by omega)
  have BO : Hid (Both N w2 (fun j => (F j ∨ w0.heap.size ≤ j) ∧ j < w1.heap.size) g seed c1 X1 p1 Y1 q1) :=
    HO.out.join hN TT.out SS.out (by omega) hz2 (fun a ha => (fx a ha).imp id (fun h => ⟨by omega, Or.inr h⟩)) (fun a ha => (fy a ha).imp id (fun h => ⟨by omega, Or.inr h⟩)) hc1l
  have FF : Hid (∀ j, ((F j ∨ w0.heap.size ≤ j) ∧ j < w1.heap.size) → F j ∨ w.heap.size ≤ j) := fun j hj => hj.1.imp id (fun h => by omega)
  have OO : Hid (Only F w w2) := ((Only.of_below HB0.out (Nat.le_refl _) F).trans (HO1.out.mono fun _ _ hf => Or.inl hf)).trans (Only.of_below hb (Nat.le_refl _) _)
  obtain ⟨w3, hw3⟩ : ∃ w3, w3 = w2.alloc (.cells #[.int .u64 seed, .slice X1 c1.length p1, .slice Y1 c1.length q1] 31) := ⟨_, rfl⟩
  obtain ⟨g10, hg10⟩ : ∃ g10, g10 = w2.heap.size := ⟨_, rfl⟩
  have b3 : Below w2.heap.size w2 w3 := by rw [hw3]; exact bnew w2 _
  have r10 : Blk w3 g10 #[.int .u64 seed, .slice X1 c1.length p1, .slice Y1 c1.length q1] 31 := by rw [hw3, hg10]; exact Blk.new w2 _ _
  have R10 := Lib.hid r10
  have R3 := Lib.hid (R2.out.below b3 R2.out.lt)
  have BO3 := Lib.hid (BO.out.below b3 (Nat.le_refl _))
  have OO3 := Lib.hid (OO.out.trans (Only.of_below b3 (Nat.le_refl _) _))
  have n10 : w2.heap.size ≤ g10 ∧ g10 < w3.heap.size := ⟨by omega, r10.lt⟩
  have NX : Hid (∀ a, X1 = some a → a.block ≠ w.heap.size + 1 + 1) := fun a ha e => by rcases fx a ha with h | h; (have := (HO.out.xF a h).2; omega); omega
  have NY : Hid (∀ a, Y1 = some a → a.block ≠ w.heap.size + 1 + 1) := fun a ha e => by rcases fy a ha with h | h; (have := (HO.out.yF a h).2; omega); omega
  obtain ⟨c0, c1', c2, _⟩ := r10.three
  clear hs hb fx fy HR b3 r10 a0 a1 a2 y0 y1 y2
  go_upto_region 6 with (fail)
  rw [← hw3, ← hg10]
  clear hw3 hg10
  have D10 := Lib.hid (show Blk w3.drew g10 _ _ from R10.out)
  have D2 := Lib.hid (show Blk w3.drew (w.heap.size + 1 + 1) _ _ from R3.out)
  have DB := Lib.hid (BO3.out.below ((Below.refl w3.heap.size w3).drew) (Nat.le_refl _))
  have DO := Lib.hid OO3.out.drew
  have hzd : w3.heap.size ≤ w3.drew.heap.size := Nat.le_refl _
  refine wp_region_noPanic ?_
  refine wp_region_held_drew (S := fun v => v.cell? ⟨g10, 0, none⟩ = some (.int .u64 seed) ∧ v.cell? ⟨g10, 1, none⟩ = some (.slice X1 c1.length p1) ∧ v.cell? ⟨g10, 2, none⟩ = some (.slice Y1 c1.length q1)) (by kernel_rfl) (⟨c0, c1', c2⟩) (fun hHeld => ?_)
  generalize w3.drew = u at D10 D2 DB DO hzd hHeld ⊢
  refine wpAnyH_take (i := 0) (oi := ⟨some 43, _, _, _, _, _⟩) (v := ?_) rfl (by kernel_rfl) (by kernel_rfl) (by kernel_rfl) (fun _ _ _ h => h) (Or.inl ⟨by rfl, ?_⟩) (by assumption) ?_
  rotate_left
  · intro w hSw; go_simp; first | done | with_reducible rfl
  try simp only [Act.put, List.setIfInBounds_toArray, List.set_cons_zero, List.set_cons_succ]
  refine wpAnyH_take (i := 1) (oi := ⟨some 44, _, _, _, _, _⟩) (v := ?_) rfl (by kernel_rfl) (by kernel_rfl) (by kernel_rfl) (fun _ _ _ h => h) (Or.inl ⟨by rfl, ?_⟩) (by assumption) ?_
  rotate_left
  · intro w hSw; go_simp; first | done | with_reducible rfl
  try simp only [Act.put, List.setIfInBounds_toArray, List.set_cons_zero, List.set_cons_succ]
  refine wpAnyH_take (i := 2) (oi := ⟨some 45, _, _, _, _, _⟩) (v := ?_) rfl (by kernel_rfl) (by kernel_rfl) (by kernel_rfl) (fun _ _ _ h => h) (Or.inl ⟨by rfl, ?_⟩) (by assumption) ?_
  rotate_left
  · intro w hSw; go_simp; first | done | with_reducible rfl
  try simp only [Act.put, List.setIfInBounds_toArray, List.set_cons_zero, List.set_cons_succ]
  refine wpAnyH_take (i := 3) (oi := ⟨some 46, _, _, _, _, _⟩) (v := ?_) rfl (by kernel_rfl) (by kernel_rfl) (by kernel_rfl) (fun _ _ _ h => h) (Or.inl ⟨by rfl, ?_⟩) (by assumption) ?_
  rotate_left
  · intro w hSw; go_simp; first | done | with_reducible rfl
  try simp only [Act.put, List.setIfInBounds_toArray, List.set_cons_zero, List.set_cons_succ]
  refine wpAnyH_take (i := 4) (oi := ⟨some 47, _, _, _, _, _⟩) (v := ?_) rfl (by kernel_rfl) (by kernel_rfl) (by kernel_rfl) (fun _ _ _ h => h) (Or.inl ⟨by rfl, ?_⟩) (by assumption) ?_
  rotate_left
  · intro w hSw; go_simp; first | done | with_reducible rfl
  try simp only [Act.put, List.setIfInBounds_toArray, List.set_cons_zero, List.set_cons_succ]
  refine wpAnyH_take (i := 5) (oi := ⟨some 6, _, _, _, _, _⟩) (v := ?_) rfl (by kernel_rfl) (by kernel_rfl) (by kernel_rfl) (fun _ _ _ h => h) (Or.inl ⟨by rfl, ?_⟩) (by assumption) ?_
  rotate_left
  · intro w hSw; go_simp; first | done | with_reducible rfl
  try simp only [Act.put, List.setIfInBounds_toArray, List.set_cons_zero, List.set_cons_succ]
  refine wpAnyH_ready (rs := [6]) (by kernel_rfl) (by simp) ?_
  refine AllReadyH.cons (o := ⟨none, _, _, _, _, _⟩) rfl (fun K hK => ?_) AllReadyH.nil
  obtain ⟨r0, r1, r2, rf0, rf1, rf2⟩ := D2.out.three
  go_simp
  obtain ⟨v9, hv9⟩ : ∃ v9, v9 = ((u.setCell ⟨w.heap.size + 1 + 1, 0, none⟩ (.int .u64 seed)).setCell ⟨w.heap.size + 1 + 1, 1, none⟩ (.slice X1 c1.length p1)).setCell ⟨w.heap.size + 1 + 1, 2, none⟩ (.slice Y1 c1.length q1) := ⟨_, rfl⟩
  have O6 : Only (fun j => j = w.heap.size + 1 + 1) u v9 := by rw [hv9]; exact three_only _ _ _
  have G2 : Hid (Blk v9 (w.heap.size + 1 + 1) #[.int .u64 seed, .slice X1 c1.length p1, .slice Y1 c1.length q1] 31) := by
    have h1 := ((D2.out.set 0 (.int .u64 seed)).set 1 (.slice X1 c1.length p1)).set 2 (.slice Y1 c1.length q1)
    show Blk _ _ _ _
    rw [hv9]; exact h1
  have G10 := Lib.hid (D10.out.only O6 (by omega))
  have GB := Lib.hid (DB.out.only O6 (fun j e hf => by rcases hf.1 with hf | hf; (have := HFL.out _ hf; omega); omega) (fun a ha e => NX.out a ha e) (fun a ha e => NY.out a ha e))
  have GO := Lib.hid (DO.out.trans (O6.mono fun j _ e => Or.inr (by omega)))
  rw [← hv9]
  clear hv9 O6 r0 r1 r2 rf0 rf1 rf2
  refine hK.out _ _ (⟨G10.out.cell 0, G10.out.cell 1, G10.out.cell 2⟩) (fun hHeld => ?_)
  clear hK K
  try simp only [Act.put, List.setIfInBounds_toArray, List.set_cons_zero, List.set_cons_succ]
  refine wpAnyH_take (i := 7) (oi := ⟨some 8, _, _, _, _, _⟩) (v := ?_) rfl (by kernel_rfl) (by kernel_rfl) (by kernel_rfl) (fun _ _ _ h => h) (Or.inl ⟨by rfl, ?_⟩) (by assumption) ?_
  rotate_left
  · intro w hSw; go_simp; first | done | with_reducible rfl
  try simp only [Act.put, List.setIfInBounds_toArray, List.set_cons_zero, List.set_cons_succ]
  refine wpAnyH_done (by kernel_rfl) ?_ _
  refine NoPanic.normal ?_
  clear hHeld
  obtain ⟨r0, r1, r2, _⟩ := G2.out.three
  go_wp2_with fail
  exact bodyPost_ret (v := .tuple #[.pointer (some ⟨g, 0, none⟩), .agg #[.int .u64 seed, .slice X1 c1.length p1, .slice Y1 c1.length q1], .bool true]) (by simp [results, Try.results12, go_sem, r0, r1, r2]) rfl ⟨g, _, c1, X1, p1, Y1, q1, rfl, HCN.out, GB.out, GO.out, FX.out, FY.out, FF.out⟩
set_option maxRecDepth 100000 in
set_option maxHeartbeats 4000000 in
theorem do2 {N : Nat} {w : World} {F : Nat → Prop} {g : Nat} {seed : Int} {c : List (Cell Key)} {X Y : Option Addr} {p q : Nat} (h : Both N w F g seed c X p Y q) (hN : N ≤ w.heap.size) (hn : c.length ≤ 10000) (k : Key) (hk : k.length ≤ 300) (n : Int) (hx : n ≤ 9223372036854775807) :
    Calls Try.prog 12 #[.pointer (some ⟨g, 0, none⟩), .agg #[.int .u64 seed, .slice X c.length p, .slice Y c.length q], .agg #[.int .i64 2, .string ⟨k.toArray⟩, .int .i64 n]] w (doPost N w F seed c X Y) := by
  obtain ⟨w0, hw0⟩ : ∃ w0, w0 = ((w.alloc (.cells #[.int .u64 seed, .slice X c.length p, .slice Y c.length q] 31)).alloc (.cells #[.int .i64 2, .string ⟨k.toArray⟩, .int .i64 n] 34)).alloc (.cells #[.int .u64 0, .slice none 0 0, .slice none 0 0] 31) := ⟨_, rfl⟩
  have b0 : Below w.heap.size w w0 := by rw [hw0]; exact ((bnew w _).alloc (by simp) _).alloc (by simp; omega) _
  have p0 : Blk w0 w.heap.size #[.int .u64 seed, .slice X c.length p, .slice Y c.length q] 31 := by rw [hw0]; exact ((Blk.new w _ _).below (bnew _ _) (by simp)).below (bnew _ _) (by simp; omega)
  have p1 : Blk w0 (w.heap.size + 1) #[.int .i64 2, .string ⟨k.toArray⟩, .int .i64 n] 34 := by
    have h := Blk.new (w.alloc (.cells #[.int .u64 seed, .slice X c.length p, .slice Y c.length q] 31)) #[.int .i64 2, .string ⟨k.toArray⟩, .int .i64 n] 34
    rw [show (w.alloc (.cells #[.int .u64 seed, .slice X c.length p, .slice Y c.length q] 31)).heap.size = w.heap.size + 1 by simp] at h
    rw [hw0]; exact h.below (bnew _ _) (by simp)
  have p2 : Blk w0 (w.heap.size + 1 + 1) #[.int .u64 0, .slice none 0 0, .slice none 0 0] 31 := by
    have h := Blk.new ((w.alloc (.cells #[.int .u64 seed, .slice X c.length p, .slice Y c.length q] 31)).alloc (.cells #[.int .i64 2, .string ⟨k.toArray⟩, .int .i64 n] 34)) #[.int .u64 0, .slice none 0 0, .slice none 0 0] 31
    rw [hw0]; simpa using h
  have hz0 : w.heap.size + 1 + 1 < w0.heap.size := p2.lt
  have HB0 := Lib.hid b0; have P0 := Lib.hid p0; have P1 := Lib.hid p1; have P2 := Lib.hid p2
  have HO := Lib.hid h
  have H0 := Lib.hid (h.below b0 (Nat.le_refl _))
  have HFL : Hid (∀ j, F j → j < w.heap.size) := fun j hj => (HO.out.fl j hj).2
  have HKY := Lib.hid h.t.pl.kys; have HSD := Lib.hid h.t.pl.sd; have HGD := Lib.hid h.t.good
  obtain ⟨y0, y1, y2, _⟩ := p1.three
  unfold doPost
  have hu := And.intro hN (And.intro hn (And.intro hk hx))
  clear h b0 p0 p1 p2 hu
  obtain ⟨c1, m, e, hP, hc1⟩ := sets_ex HGD.out k n
  have HCN := Lib.hid hc1
  have HC := Lib.hid (set_any H0.out.t k (by omega) hx hP)
  have HPU := Lib.hid hP
  unfold setPost at HC
  clear hP hc1
  go_enter Try.func12, Try.ntmps12
  go_wp2_with fail
  rw [← hw0]
  clear hw0 y0 y1 y2
  refine HC.out.mono ?_
  rintro r w1 ⟨rfl, ht, ho⟩
  have hz1 : w0.heap.size ≤ w1.heap.size := ho.size
  have HT1 : Hid (Pt (fun j => (F j ∨ w0.heap.size ≤ j) ∧ j < w1.heap.size) w1 g seed c1) := ht.mono fun j hj hf => ⟨Or.inl hf, hj⟩
  have HO1 := Lib.hid ho
  have S1 := Lib.hid (tb_only H0.out.s ho (fun a ha => (H0.out.xF a ha).1) (fun a ha => (H0.out.yF a ha).1))
  have Q0 := Lib.hid (P0.out.only ho (fun hf => by have := HFL.out _ hf; omega)); have Q1 := Lib.hid (P1.out.only ho (fun hf => by have := HFL.out _ hf; omega)); have Q2 := Lib.hid (P2.out.only ho (fun hf => by have := HFL.out _ hf; omega))
  have HR := Lib.hid (rset_any (seed := seed) S1.out HGD.out k (by omega) (by omega) HPU.out)
  unfold tabPost at HR
  obtain ⟨a0, a1, a2, _⟩ := Q0.out.three
  obtain ⟨y0, y1, y2, _⟩ := Q1.out.three
  have hc1l : 0 < c1.length := by have := HT1.out.good.lo; omega
  clear ht ho HC
  go_wp2_with fail
  refine HR.out.mono ?_
  rintro r w2 ⟨X1, p1, Y1, q1, rfl, hs, hb, fx, fy⟩
  have TT := Lib.hid (HT1.out.below hb (Nat.le_refl _))
  have SS := Lib.hid hs
  have R2 := Lib.hid (Q2.out.below hb Q2.out.lt)
  have hz2 : w1.heap.size ≤ w2.heap.size := hb.size
  have FX : Hid (∀ a, X1 = some a → X = some a ∨ w.heap.size ≤ a.block) := fun a ha => (fx a ha).imp id (fun h => by omega)
  have FY : Hid (∀ a, Y1 = some a → Y = some a ∨ w.heap.size ≤ a.block) := fun a ha => (fy a ha).imp id (fun h => by omega)
  have BO : Hid (Both N w2 (fun j => (F j ∨ w0.heap.size ≤ j) ∧ j < w1.heap.size) g seed c1 X1 p1 Y1 q1) :=
    HO.out.join hN TT.out SS.out (by omega) hz2 (fun a ha => (fx a ha).imp id (fun h => ⟨by omega, Or.inr h⟩)) (fun a ha => (fy a ha).imp id (fun h => ⟨by omega, Or.inr h⟩)) hc1l
  have FF : Hid (∀ j, ((F j ∨ w0.heap.size ≤ j) ∧ j < w1.heap.size) → F j ∨ w.heap.size ≤ j) := fun j hj => hj.1.imp id (fun h => by omega)
  have OO : Hid (Only F w w2) := ((Only.of_below HB0.out (Nat.le_refl _) F).trans (HO1.out.mono fun _ _ hf => Or.inl hf)).trans (Only.of_below hb (Nat.le_refl _) _)
  obtain ⟨w3, hw3⟩ : ∃ w3, w3 = w2.alloc (.cells #[.int .u64 seed, .slice X1 c1.length p1, .slice Y1 c1.length q1] 31) := ⟨_, rfl⟩
  obtain ⟨g10, hg10⟩ : ∃ g10, g10 = w2.heap.size := ⟨_, rfl⟩
  have b3 : Below w2.heap.size w2 w3 := by rw [hw3]; exact bnew w2 _
  have r10 : Blk w3 g10 #[.int .u64 seed, .slice X1 c1.length p1, .slice Y1 c1.length q1] 31 := by rw [hw3, hg10]; exact Blk.new w2 _ _
  have R10 := Lib.hid r10
  have R3 := Lib.hid (R2.out.below b3 R2.out.lt)
  have BO3 := Lib.hid (BO.out.below b3 (Nat.le_refl _))
  have OO3 := Lib.hid (OO.out.trans (Only.of_below b3 (Nat.le_refl _) _))
  have n10 : w2.heap.size ≤ g10 ∧ g10 < w3.heap.size := ⟨by omega, r10.lt⟩
  have NX : Hid (∀ a, X1 = some a → a.block ≠ w.heap.size + 1 + 1) := fun a ha e => by rcases fx a ha with h | h; (have := (HO.out.xF a h).2; omega); omega
  have NY : Hid (∀ a, Y1 = some a → a.block ≠ w.heap.size + 1 + 1) := fun a ha e => by rcases fy a ha with h | h; (have := (HO.out.yF a h).2; omega); omega
  obtain ⟨c0, c1', c2, _⟩ := r10.three
  clear hs hb fx fy HR b3 r10 a0 a1 a2 y0 y1 y2
  go_upto_region 13 with (fail)
  rw [← hw3, ← hg10]
  clear hw3 hg10
  have D10 := Lib.hid (show Blk w3.drew g10 _ _ from R10.out)
  have D2 := Lib.hid (show Blk w3.drew (w.heap.size + 1 + 1) _ _ from R3.out)
  have DB := Lib.hid (BO3.out.below ((Below.refl w3.heap.size w3).drew) (Nat.le_refl _))
  have DO := Lib.hid OO3.out.drew
  have hzd : w3.heap.size ≤ w3.drew.heap.size := Nat.le_refl _
  refine wp_region_noPanic ?_
  refine wp_region_held_drew (S := fun v => v.cell? ⟨g10, 0, none⟩ = some (.int .u64 seed) ∧ v.cell? ⟨g10, 1, none⟩ = some (.slice X1 c1.length p1) ∧ v.cell? ⟨g10, 2, none⟩ = some (.slice Y1 c1.length q1)) (by kernel_rfl) (⟨c0, c1', c2⟩) (fun hHeld => ?_)
  generalize w3.drew = u at D10 D2 DB DO hzd hHeld ⊢
  refine wpAnyH_take (i := 0) (oi := ⟨some 82, _, _, _, _, _⟩) (v := ?_) rfl (by kernel_rfl) (by kernel_rfl) (by kernel_rfl) (fun _ _ _ h => h) (Or.inl ⟨by rfl, ?_⟩) (by assumption) ?_
  rotate_left
  · intro w hSw; go_simp; first | done | with_reducible rfl
  try simp only [Act.put, List.setIfInBounds_toArray, List.set_cons_zero, List.set_cons_succ]
  refine wpAnyH_take (i := 1) (oi := ⟨some 83, _, _, _, _, _⟩) (v := ?_) rfl (by kernel_rfl) (by kernel_rfl) (by kernel_rfl) (fun _ _ _ h => h) (Or.inl ⟨by rfl, ?_⟩) (by assumption) ?_
  rotate_left
  · intro w hSw; go_simp; first | done | with_reducible rfl
  try simp only [Act.put, List.setIfInBounds_toArray, List.set_cons_zero, List.set_cons_succ]
  refine wpAnyH_take (i := 2) (oi := ⟨some 84, _, _, _, _, _⟩) (v := ?_) rfl (by kernel_rfl) (by kernel_rfl) (by kernel_rfl) (fun _ _ _ h => h) (Or.inl ⟨by rfl, ?_⟩) (by assumption) ?_
  rotate_left
  · intro w hSw; go_simp; first | done | with_reducible rfl
  try simp only [Act.put, List.setIfInBounds_toArray, List.set_cons_zero, List.set_cons_succ]
  refine wpAnyH_take (i := 3) (oi := ⟨some 85, _, _, _, _, _⟩) (v := ?_) rfl (by kernel_rfl) (by kernel_rfl) (by kernel_rfl) (fun _ _ _ h => h) (Or.inl ⟨by rfl, ?_⟩) (by assumption) ?_
  rotate_left
  · intro w hSw; go_simp; first | done | with_reducible rfl
  try simp only [Act.put, List.setIfInBounds_toArray, List.set_cons_zero, List.set_cons_succ]
  refine wpAnyH_take (i := 4) (oi := ⟨some 86, _, _, _, _, _⟩) (v := ?_) rfl (by kernel_rfl) (by kernel_rfl) (by kernel_rfl) (fun _ _ _ h => h) (Or.inl ⟨by rfl, ?_⟩) (by assumption) ?_
  rotate_left
  · intro w hSw; go_simp; first | done | with_reducible rfl
  try simp only [Act.put, List.setIfInBounds_toArray, List.set_cons_zero, List.set_cons_succ]
  refine wpAnyH_take (i := 5) (oi := ⟨some 87, _, _, _, _, _⟩) (v := ?_) rfl (by kernel_rfl) (by kernel_rfl) (by kernel_rfl) (fun _ _ _ h => h) (Or.inl ⟨by rfl, ?_⟩) (by assumption) ?_
  rotate_left
  · intro w hSw; go_simp; first | done | with_reducible rfl
  try simp only [Act.put, List.setIfInBounds_toArray, List.set_cons_zero, List.set_cons_succ]
  refine wpAnyH_ready (rs := [6]) (by kernel_rfl) (by simp) ?_
  refine AllReadyH.cons (o := ⟨some 88, _, _, _, _, _⟩) rfl (fun K hK => ?_) AllReadyH.nil
  go_simp
  refine (is_true m e).mono ?_
  rintro r w60 ⟨rfl, rfl⟩
  have K60 := hHeld
  go_simp
  refine hK.out _ _ (K60) (fun hHeld => ?_)
  clear hK K
  try simp only [Act.put, List.setIfInBounds_toArray, List.set_cons_zero, List.set_cons_succ]
  refine wpAnyH_take (i := 7) (oi := ⟨some 6, _, _, _, _, _⟩) (v := ?_) rfl (by kernel_rfl) (by kernel_rfl) (by kernel_rfl) (fun _ _ _ h => h) (Or.inl ⟨by rfl, ?_⟩) (by assumption) ?_
  rotate_left
  · intro w hSw; go_simp; first | done | with_reducible rfl
  try simp only [Act.put, List.setIfInBounds_toArray, List.set_cons_zero, List.set_cons_succ]
  refine wpAnyH_ready (rs := [8]) (by kernel_rfl) (by simp) ?_
  refine AllReadyH.cons (o := ⟨none, _, _, _, _, _⟩) rfl (fun K hK => ?_) AllReadyH.nil
  obtain ⟨r0, r1, r2, rf0, rf1, rf2⟩ := D2.out.three
  go_simp
  obtain ⟨v9, hv9⟩ : ∃ v9, v9 = ((u.setCell ⟨w.heap.size + 1 + 1, 0, none⟩ (.int .u64 seed)).setCell ⟨w.heap.size + 1 + 1, 1, none⟩ (.slice X1 c1.length p1)).setCell ⟨w.heap.size + 1 + 1, 2, none⟩ (.slice Y1 c1.length q1) := ⟨_, rfl⟩
  have O6 : Only (fun j => j = w.heap.size + 1 + 1) u v9 := by rw [hv9]; exact three_only _ _ _
  have G2 : Hid (Blk v9 (w.heap.size + 1 + 1) #[.int .u64 seed, .slice X1 c1.length p1, .slice Y1 c1.length q1] 31) := by
    have h1 := ((D2.out.set 0 (.int .u64 seed)).set 1 (.slice X1 c1.length p1)).set 2 (.slice Y1 c1.length q1)
    show Blk _ _ _ _
    rw [hv9]; exact h1
  have G10 := Lib.hid (D10.out.only O6 (by omega))
  have GB := Lib.hid (DB.out.only O6 (fun j e hf => by rcases hf.1 with hf | hf; (have := HFL.out _ hf; omega); omega) (fun a ha e => NX.out a ha e) (fun a ha e => NY.out a ha e))
  have GO := Lib.hid (DO.out.trans (O6.mono fun j _ e => Or.inr (by omega)))
  rw [← hv9]
  clear hv9 O6 r0 r1 r2 rf0 rf1 rf2
  refine hK.out _ _ (⟨G10.out.cell 0, G10.out.cell 1, G10.out.cell 2⟩) (fun hHeld => ?_)
  clear hK K
  try simp only [Act.put, List.setIfInBounds_toArray, List.set_cons_zero, List.set_cons_succ]
  refine wpAnyH_take (i := 9) (oi := ⟨some 8, _, _, _, _, _⟩) (v := ?_) rfl (by kernel_rfl) (by kernel_rfl) (by kernel_rfl) (fun _ _ _ h => h) (Or.inl ⟨by rfl, ?_⟩) (by assumption) ?_
  rotate_left
  · intro w hSw; go_simp; first | done | with_reducible rfl
  try simp only [Act.put, List.setIfInBounds_toArray, List.set_cons_zero, List.set_cons_succ]
  refine wpAnyH_done (by kernel_rfl) ?_ _
  refine NoPanic.normal ?_
  clear hHeld
  obtain ⟨r0, r1, r2, _⟩ := G2.out.three
  go_wp2_with fail
  exact bodyPost_ret (v := .tuple #[.pointer (some ⟨g, 0, none⟩), .agg #[.int .u64 seed, .slice X1 c1.length p1, .slice Y1 c1.length q1], .bool true]) (by simp [results, Try.results12, go_sem, r0, r1, r2]) rfl ⟨g, _, c1, X1, p1, Y1, q1, rfl, HCN.out, GB.out, GO.out, FX.out, FY.out, FF.out⟩
set_option maxRecDepth 100000 in
set_option maxHeartbeats 4000000 in
theorem do1 {N : Nat} {w : World} {F : Nat → Prop} {g : Nat} {seed : Int} {c : List (Cell Key)} {X Y : Option Addr} {p q : Nat} (h : Both N w F g seed c X p Y q) (hN : N ≤ w.heap.size) (hn : c.length ≤ 10000) (k : Key) (hk : k.length ≤ 300) (n : Int) (hx : n ≤ 9223372036854775807) :
    Calls Try.prog 12 #[.pointer (some ⟨g, 0, none⟩), .agg #[.int .u64 seed, .slice X c.length p, .slice Y c.length q], .agg #[.int .i64 1, .string ⟨k.toArray⟩, .int .i64 n]] w (doPost N w F seed c X Y) := by
  obtain ⟨w0, hw0⟩ : ∃ w0, w0 = ((w.alloc (.cells #[.int .u64 seed, .slice X c.length p, .slice Y c.length q] 31)).alloc (.cells #[.int .i64 1, .string ⟨k.toArray⟩, .int .i64 n] 34)).alloc (.cells #[.int .u64 0, .slice none 0 0, .slice none 0 0] 31) := ⟨_, rfl⟩
  have b0 : Below w.heap.size w w0 := by rw [hw0]; exact ((bnew w _).alloc (by simp) _).alloc (by simp; omega) _
  have p0 : Blk w0 w.heap.size #[.int .u64 seed, .slice X c.length p, .slice Y c.length q] 31 := by rw [hw0]; exact ((Blk.new w _ _).below (bnew _ _) (by simp)).below (bnew _ _) (by simp; omega)
  have p1 : Blk w0 (w.heap.size + 1) #[.int .i64 1, .string ⟨k.toArray⟩, .int .i64 n] 34 := by
    have h := Blk.new (w.alloc (.cells #[.int .u64 seed, .slice X c.length p, .slice Y c.length q] 31)) #[.int .i64 1, .string ⟨k.toArray⟩, .int .i64 n] 34
    rw [show (w.alloc (.cells #[.int .u64 seed, .slice X c.length p, .slice Y c.length q] 31)).heap.size = w.heap.size + 1 by simp] at h
    rw [hw0]; exact h.below (bnew _ _) (by simp)
  have p2 : Blk w0 (w.heap.size + 1 + 1) #[.int .u64 0, .slice none 0 0, .slice none 0 0] 31 := by
    have h := Blk.new ((w.alloc (.cells #[.int .u64 seed, .slice X c.length p, .slice Y c.length q] 31)).alloc (.cells #[.int .i64 1, .string ⟨k.toArray⟩, .int .i64 n] 34)) #[.int .u64 0, .slice none 0 0, .slice none 0 0] 31
    rw [hw0]; simpa using h
  have hz0 : w.heap.size + 1 + 1 < w0.heap.size := p2.lt
  have HB0 := Lib.hid b0; have P0 := Lib.hid p0; have P1 := Lib.hid p1; have P2 := Lib.hid p2
  have HO := Lib.hid h
  have H0 := Lib.hid (h.below b0 (Nat.le_refl _))
  have HFL : Hid (∀ j, F j → j < w.heap.size) := fun j hj => (HO.out.fl j hj).2
  have HKY := Lib.hid h.t.pl.kys; have HSD := Lib.hid h.t.pl.sd; have HGD := Lib.hid h.t.good
  obtain ⟨y0, y1, y2, _⟩ := p1.three
  unfold doPost
  have hu := And.intro hN (And.intro hn (And.intro hk hx))
  clear h b0 p0 p1 p2 hu
  obtain ⟨m, e, hG⟩ := gets_ex (c := c) k
  have HGT := Lib.hid hG
  have HR := Lib.hid (rget_any (seed := seed) H0.out.s HGD.out k (by omega) (by omega) hG)
  have HCN : Hid (cnt c ≤ cnt c + 1) := Nat.le_succ _
  obtain ⟨a0, a1, a2, _⟩ := P0.out.three
  clear hG
  go_enter Try.func12, Try.ntmps12
  go_wp2_with fail
  rw [← hw0]
  clear hw0 y0 y1 y2 a0 a1 a2
  refine HR.out.mono ?_
  rintro r w2 ⟨rfl, hb⟩
  have R0 := Lib.hid (P0.out.below hb P0.out.lt)
  have R2 := Lib.hid (P2.out.below hb P2.out.lt)
  have BO := Lib.hid (H0.out.below hb (Nat.le_refl _))
  have hz2 : w0.heap.size ≤ w2.heap.size := hb.size
  have OO : Hid (Only F w w2) := (Only.of_below HB0.out (Nat.le_refl _) F).trans (Only.of_below hb (Nat.le_refl _) _)
  have FX : Hid (∀ a, X = some a → X = some a ∨ w.heap.size ≤ a.block) := fun a ha => Or.inl ha
  have FY : Hid (∀ a, Y = some a → Y = some a ∨ w.heap.size ≤ a.block) := fun a ha => Or.inl ha
  have FF : Hid (∀ j, F j → F j ∨ w.heap.size ≤ j) := fun j hj => Or.inl hj
  obtain ⟨c0, c1, c2, _⟩ := R0.out.three
  clear hb HR
  go_wp2_with fail
  have D10 := Lib.hid (show Blk w2.drew w.heap.size _ _ from R0.out)
  have D2 := Lib.hid (show Blk w2.drew (w.heap.size + 1 + 1) _ _ from R2.out)
  have DB := Lib.hid (BO.out.below ((Below.refl w2.heap.size w2).drew) (Nat.le_refl _))
  have DO := Lib.hid OO.out.drew
  have hzd : w2.heap.size ≤ w2.drew.heap.size := Nat.le_refl _
  refine wp_region_noPanic ?_
  refine wp_region_held_drew (S := fun v => v.cell? ⟨w.heap.size, 0, none⟩ = some (.int .u64 seed) ∧ v.cell? ⟨w.heap.size, 1, none⟩ = some (.slice X c.length p) ∧ v.cell? ⟨w.heap.size, 2, none⟩ = some (.slice Y c.length q)) (by kernel_rfl) (⟨c0, c1, c2⟩) (fun hHeld => ?_)
  generalize w2.drew = u at D10 D2 DB DO hzd hHeld ⊢
  refine wpAnyH_take (i := 0) (oi := ⟨some 56, _, _, _, _, _⟩) (v := ?_) rfl (by kernel_rfl) (by kernel_rfl) (by kernel_rfl) (fun _ _ _ h => h) (Or.inl ⟨by rfl, ?_⟩) (by assumption) ?_
  rotate_left
  · intro w hSw; go_simp; first | done | with_reducible rfl
  try simp only [Act.put, List.setIfInBounds_toArray, List.set_cons_zero, List.set_cons_succ]
  refine wpAnyH_take (i := 1) (oi := ⟨some 57, _, _, _, _, _⟩) (v := ?_) rfl (by kernel_rfl) (by kernel_rfl) (by kernel_rfl) (fun _ _ _ h => h) (Or.inl ⟨by rfl, ?_⟩) (by assumption) ?_
  rotate_left
  · intro w hSw; go_simp; first | done | with_reducible rfl
  try simp only [Act.put, List.setIfInBounds_toArray, List.set_cons_zero, List.set_cons_succ]
  refine wpAnyH_take (i := 2) (oi := ⟨some 58, _, _, _, _, _⟩) (v := ?_) rfl (by kernel_rfl) (by kernel_rfl) (by kernel_rfl) (fun _ _ _ h => h) (Or.inl ⟨by rfl, ?_⟩) (by assumption) ?_
  rotate_left
  · intro w hSw; go_simp; first | done | with_reducible rfl
  try simp only [Act.put, List.setIfInBounds_toArray, List.set_cons_zero, List.set_cons_succ]
  refine wpAnyH_take (i := 3) (oi := ⟨some 59, _, _, _, _, _⟩) (v := ?_) rfl (by kernel_rfl) (by kernel_rfl) (by kernel_rfl) (fun _ _ _ h => h) (Or.inl ⟨by rfl, ?_⟩) (by assumption) ?_
  rotate_left
  · intro w hSw; go_simp; first | done | with_reducible rfl
  try simp only [Act.put, List.setIfInBounds_toArray, List.set_cons_zero, List.set_cons_succ]
  refine wpAnyH_take (i := 4) (oi := ⟨some 60, _, _, _, _, _⟩) (v := ?_) rfl (by kernel_rfl) (by kernel_rfl) (by kernel_rfl) (fun _ _ _ h => h) (Or.inl ⟨by rfl, ?_⟩) (by assumption) ?_
  rotate_left
  · intro w hSw; go_simp; first | done | with_reducible rfl
  try simp only [Act.put, List.setIfInBounds_toArray, List.set_cons_zero, List.set_cons_succ]
  refine wpAnyH_take (i := 5) (oi := ⟨some 61, _, _, _, _, _⟩) (v := ?_) rfl (by kernel_rfl) (by kernel_rfl) (by kernel_rfl) (fun _ _ _ h => h) (Or.inl ⟨by rfl, ?_⟩) (by assumption) ?_
  rotate_left
  · intro w hSw; go_simp; first | done | with_reducible rfl
  try simp only [Act.put, List.setIfInBounds_toArray, List.set_cons_zero, List.set_cons_succ]
  refine wpAnyH_ready (rs := [6]) (by kernel_rfl) (by simp) ?_
  refine AllReadyH.cons (o := ⟨some 62, _, _, _, _, _⟩) rfl (fun K hK => ?_) AllReadyH.nil
  go_simp
  refine (gets_true k m e (get_any DB.out.t k (by omega) HGT.out)).mono ?_
  rintro r u2 ⟨rfl, b6⟩
  have E10 := Lib.hid (D10.out.below b6 D10.out.lt)
  have E2 := Lib.hid (D2.out.below b6 D2.out.lt)
  have EB := Lib.hid (DB.out.below b6 (Nat.le_refl _))
  have EO := Lib.hid (DO.out.trans (Only.of_below b6 (Nat.le_refl _) _))
  have hze := b6.size
  clear b6
  go_simp
  refine hK.out _ _ (⟨E10.out.cell 0, E10.out.cell 1, E10.out.cell 2⟩) (fun hHeld => ?_)
  clear hK K
  try simp only [Act.put, List.setIfInBounds_toArray, List.set_cons_zero, List.set_cons_succ]
  refine wpAnyH_take (i := 7) (oi := ⟨some 6, _, _, _, _, _⟩) (v := ?_) rfl (by kernel_rfl) (by kernel_rfl) (by kernel_rfl) (fun _ _ _ h => h) (Or.inl ⟨by rfl, ?_⟩) (by assumption) ?_
  rotate_left
  · intro w hSw; go_simp; first | done | with_reducible rfl
  try simp only [Act.put, List.setIfInBounds_toArray, List.set_cons_zero, List.set_cons_succ]
  refine wpAnyH_ready (rs := [8]) (by kernel_rfl) (by simp) ?_
  refine AllReadyH.cons (o := ⟨none, _, _, _, _, _⟩) rfl (fun K hK => ?_) AllReadyH.nil
  obtain ⟨r0, r1, r2, rf0, rf1, rf2⟩ := E2.out.three
  go_simp
  obtain ⟨v9, hv9⟩ : ∃ v9, v9 = ((u2.setCell ⟨w.heap.size + 1 + 1, 0, none⟩ (.int .u64 seed)).setCell ⟨w.heap.size + 1 + 1, 1, none⟩ (.slice X c.length p)).setCell ⟨w.heap.size + 1 + 1, 2, none⟩ (.slice Y c.length q) := ⟨_, rfl⟩
  have O6 : Only (fun j => j = w.heap.size + 1 + 1) u2 v9 := by rw [hv9]; exact three_only _ _ _
  have G2 : Hid (Blk v9 (w.heap.size + 1 + 1) #[.int .u64 seed, .slice X c.length p, .slice Y c.length q] 31) := by
    have h1 := ((E2.out.set 0 (.int .u64 seed)).set 1 (.slice X c.length p)).set 2 (.slice Y c.length q)
    show Blk _ _ _ _
    rw [hv9]; exact h1
  have G10 := Lib.hid (E10.out.only O6 (by omega))
  have GB := Lib.hid (EB.out.only O6 (fun j e hf => by have := HFL.out _ hf; omega) (fun a ha e => by have := (HO.out.xF a ha).2; omega) (fun a ha e => by have := (HO.out.yF a ha).2; omega))
  have GO := Lib.hid (EO.out.trans (O6.mono fun j _ e => Or.inr (by omega)))
  rw [← hv9]
  clear hv9 O6 r0 r1 r2 rf0 rf1 rf2
  refine hK.out _ _ (⟨G10.out.cell 0, G10.out.cell 1, G10.out.cell 2⟩) (fun hHeld => ?_)
  clear hK K
  try simp only [Act.put, List.setIfInBounds_toArray, List.set_cons_zero, List.set_cons_succ]
  refine wpAnyH_take (i := 9) (oi := ⟨some 8, _, _, _, _, _⟩) (v := ?_) rfl (by kernel_rfl) (by kernel_rfl) (by kernel_rfl) (fun _ _ _ h => h) (Or.inl ⟨by rfl, ?_⟩) (by assumption) ?_
  rotate_left
  · intro w hSw; go_simp; first | done | with_reducible rfl
  try simp only [Act.put, List.setIfInBounds_toArray, List.set_cons_zero, List.set_cons_succ]
  refine wpAnyH_done (by kernel_rfl) ?_ _
  refine NoPanic.normal ?_
  clear hHeld
  obtain ⟨r0, r1, r2, _⟩ := G2.out.three
  go_wp2_with fail
  exact bodyPost_ret (v := .tuple #[.pointer (some ⟨g, 0, none⟩), .agg #[.int .u64 seed, .slice X c.length p, .slice Y c.length q], .bool true]) (by simp [results, Try.results12, go_sem, r0, r1, r2]) rfl ⟨g, _, c, X, p, Y, q, rfl, HCN.out, GB.out, GO.out, FX.out, FY.out, FF.out⟩
set_option maxRecDepth 100000 in
set_option maxHeartbeats 4000000 in
theorem do3 {N : Nat} {w : World} {F : Nat → Prop} {g : Nat} {seed : Int} {c : List (Cell Key)} {X Y : Option Addr} {p q : Nat} (h : Both N w F g seed c X p Y q) (hN : N ≤ w.heap.size) (hn : c.length ≤ 10000) (a : Int) (ha : a = 3 ∨ a = 4) (k : Key) (hk : k.length ≤ 300) (n : Int) (hx : n ≤ 9223372036854775807) (h4 : a = 3 ∨ n < 0) :
    Calls Try.prog 12 #[.pointer (some ⟨g, 0, none⟩), .agg #[.int .u64 seed, .slice X c.length p, .slice Y c.length q], .agg #[.int .i64 a, .string ⟨k.toArray⟩, .int .i64 n]] w (doPost N w F seed c X Y) := by
  obtain ⟨w0, hw0⟩ : ∃ w0, w0 = ((w.alloc (.cells #[.int .u64 seed, .slice X c.length p, .slice Y c.length q] 31)).alloc (.cells #[.int .i64 a, .string ⟨k.toArray⟩, .int .i64 n] 34)).alloc (.cells #[.int .u64 0, .slice none 0 0, .slice none 0 0] 31) := ⟨_, rfl⟩
  have b0 : Below w.heap.size w w0 := by rw [hw0]; exact ((bnew w _).alloc (by simp) _).alloc (by simp; omega) _
  have p0 : Blk w0 w.heap.size #[.int .u64 seed, .slice X c.length p, .slice Y c.length q] 31 := by rw [hw0]; exact ((Blk.new w _ _).below (bnew _ _) (by simp)).below (bnew _ _) (by simp; omega)
  have p1 : Blk w0 (w.heap.size + 1) #[.int .i64 a, .string ⟨k.toArray⟩, .int .i64 n] 34 := by
    have h := Blk.new (w.alloc (.cells #[.int .u64 seed, .slice X c.length p, .slice Y c.length q] 31)) #[.int .i64 a, .string ⟨k.toArray⟩, .int .i64 n] 34
    rw [show (w.alloc (.cells #[.int .u64 seed, .slice X c.length p, .slice Y c.length q] 31)).heap.size = w.heap.size + 1 by simp] at h
    rw [hw0]; exact h.below (bnew _ _) (by simp)
  have p2 : Blk w0 (w.heap.size + 1 + 1) #[.int .u64 0, .slice none 0 0, .slice none 0 0] 31 := by
    have h := Blk.new ((w.alloc (.cells #[.int .u64 seed, .slice X c.length p, .slice Y c.length q] 31)).alloc (.cells #[.int .i64 a, .string ⟨k.toArray⟩, .int .i64 n] 34)) #[.int .u64 0, .slice none 0 0, .slice none 0 0] 31
    rw [hw0]; simpa using h
  have hz0 : w.heap.size + 1 + 1 < w0.heap.size := p2.lt
  have HB0 := Lib.hid b0; have P0 := Lib.hid p0; have P1 := Lib.hid p1; have P2 := Lib.hid p2
  have HO := Lib.hid h
  have H0 := Lib.hid (h.below b0 (Nat.le_refl _))
  have HFL : Hid (∀ j, F j → j < w.heap.size) := fun j hj => (HO.out.fl j hj).2
  have HKY := Lib.hid h.t.pl.kys; have HSD := Lib.hid h.t.pl.sd; have HGD := Lib.hid h.t.good
  obtain ⟨y0, y1, y2, _⟩ := p1.three
  unfold doPost
  have hu := And.intro hN (And.intro hn (And.intro hk hx))
  clear h b0 p0 p1 p2 hu
  obtain ⟨c1, m, e, hP, hc1⟩ := dels_ex HGD.out k
  have HCN := Lib.hid hc1
  have HPU := Lib.hid hP
  have hc1l : 0 < c1.length := by
    rcases hP with ⟨rfl, _⟩ | ⟨_, ⟨i, x, hi, _, rfl⟩, _⟩
    · have := HGD.out.lo; omega
    · have := (del_good HGD.out hi).1.lo; omega
  have HR := Lib.hid (rdel_any H0.out.s HGD.out HKY.out HSD.out k (by omega) (by omega) hP)
  unfold tabPost at HR
  obtain ⟨a0, a1, a2, _⟩ := P0.out.three
  clear hP hc1
  rcases ha with rfl | rfl
  · clear h4
    go_enter Try.func12, Try.ntmps12
    go_wp2_with fail
    rw [← hw0]
    clear hw0 y0 y1 y2
    refine HR.out.mono ?_
    rintro r w2 ⟨X1, p1, Y1, q1, rfl, hs, hb, fx, fy⟩
    have SS := Lib.hid hs
    have R2 := Lib.hid (P2.out.below hb P2.out.lt)
    have hz2 : w0.heap.size ≤ w2.heap.size := hb.size
    have hzw := HB0.out.size
    have FX : Hid (∀ a, X1 = some a → X = some a ∨ w.heap.size ≤ a.block) := fun a ha => (fx a ha).imp id (fun h => by omega)
    have FY : Hid (∀ a, Y1 = some a → Y = some a ∨ w.heap.size ≤ a.block) := fun a ha => (fy a ha).imp id (fun h => by omega)
    have LX : Hid (∀ a, X1 = some a → a.block < w2.heap.size) := (tb_lt hs hc1l).1
    have LY : Hid (∀ a, Y1 = some a → a.block < w2.heap.size) := (tb_lt hs hc1l).2
    have BT := Lib.hid (H0.out.t.below hb (Nat.le_refl _))
    have OO : Hid (Only F w w2) := (Only.of_below HB0.out (Nat.le_refl _) F).trans (Only.of_below hb (Nat.le_refl _) _)
    obtain ⟨w3, hw3⟩ : ∃ w3, w3 = w2.alloc (.cells #[.int .u64 seed, .slice X1 c1.length p1, .slice Y1 c1.length q1] 31) := ⟨_, rfl⟩
    obtain ⟨g10, hg10⟩ : ∃ g10, g10 = w2.heap.size := ⟨_, rfl⟩
    have b3 : Below w2.heap.size w2 w3 := by rw [hw3]; exact bnew w2 _
    have r10 : Blk w3 g10 #[.int .u64 seed, .slice X1 c1.length p1, .slice Y1 c1.length q1] 31 := by rw [hw3, hg10]; exact Blk.new w2 _ _
    have R10 := Lib.hid r10
    have R3 := Lib.hid (R2.out.below b3 R2.out.lt)
    have BT3 := Lib.hid (BT.out.below b3 (Nat.le_refl _))
    have SS3 := Lib.hid (SS.out.below b3 (Nat.le_refl _))
    have OO3 := Lib.hid (OO.out.trans (Only.of_below b3 (Nat.le_refl _) _))
    have n10 : w2.heap.size ≤ g10 ∧ g10 < w3.heap.size := ⟨by omega, r10.lt⟩
    have hz3 : w2.heap.size ≤ w3.heap.size := by omega
    have NX : Hid (∀ a, X1 = some a → a.block ≠ w.heap.size + 1 + 1) := fun a ha e => by rcases fx a ha with h | h; (have := (HO.out.xF a h).2; omega); omega
    have NY : Hid (∀ a, Y1 = some a → a.block ≠ w.heap.size + 1 + 1) := fun a ha e => by rcases fy a ha with h | h; (have := (HO.out.yF a h).2; omega); omega
    have NFX : Hid (∀ a, X1 = some a → ¬ F a.block) := fun a ha hf => by rcases fx a ha with h | h; exact (HO.out.xF a h).1 hf; (have := HFL.out _ hf; omega)
    have NFY : Hid (∀ a, Y1 = some a → ¬ F a.block) := fun a ha hf => by rcases fy a ha with h | h; exact (HO.out.yF a h).1 hf; (have := HFL.out _ hf; omega)
    obtain ⟨c0, c1', c2, _⟩ := r10.three
    clear hs hb fx fy HR b3 r10 a0 a1 a2
    go_upto_region 19 with (fail)
    rw [← hw3, ← hg10]
    clear hw3 hg10
    have D10 := Lib.hid (show Blk w3.drew g10 _ _ from R10.out)
    have D2 := Lib.hid (show Blk w3.drew (w.heap.size + 1 + 1) _ _ from R3.out)
    have DT := Lib.hid (BT3.out.below ((Below.refl w3.heap.size w3).drew) (Nat.le_refl _))
    have DS := Lib.hid (SS3.out.below ((Below.refl w3.heap.size w3).drew) (Nat.le_refl _))
    have DO := Lib.hid OO3.out.drew
    have hzd : w3.heap.size ≤ w3.drew.heap.size := Nat.le_refl _
    refine wp_region_noPanic ?_
    refine wp_region_held_drew (S := fun v => v.cell? ⟨g10, 0, none⟩ = some (.int .u64 seed) ∧ v.cell? ⟨g10, 1, none⟩ = some (.slice X1 c1.length p1) ∧ v.cell? ⟨g10, 2, none⟩ = some (.slice Y1 c1.length q1)) (by kernel_rfl) (⟨c0, c1', c2⟩) (fun hHeld => ?_)
    generalize w3.drew = u at D10 D2 DT DS DO hzd hHeld ⊢
    refine wpAnyH_take (i := 0) (oi := ⟨some 117, _, _, _, _, _⟩) (v := ?_) rfl (by kernel_rfl) (by kernel_rfl) (by kernel_rfl) (fun _ _ _ h => h) (Or.inl ⟨by rfl, ?_⟩) (by assumption) ?_
    rotate_left
    · intro w hSw; go_simp; first | done | with_reducible rfl
    try simp only [Act.put, List.setIfInBounds_toArray, List.set_cons_zero, List.set_cons_succ]
    refine wpAnyH_take (i := 1) (oi := ⟨some 118, _, _, _, _, _⟩) (v := ?_) rfl (by kernel_rfl) (by kernel_rfl) (by kernel_rfl) (fun _ _ _ h => h) (Or.inl ⟨by rfl, ?_⟩) (by assumption) ?_
    rotate_left
    · intro w hSw; go_simp; first | done | with_reducible rfl
    try simp only [Act.put, List.setIfInBounds_toArray, List.set_cons_zero, List.set_cons_succ]
    refine wpAnyH_take (i := 2) (oi := ⟨some 119, _, _, _, _, _⟩) (v := ?_) rfl (by kernel_rfl) (by kernel_rfl) (by kernel_rfl) (fun _ _ _ h => h) (Or.inl ⟨by rfl, ?_⟩) (by assumption) ?_
    rotate_left
    · intro w hSw; go_simp; first | done | with_reducible rfl
    try simp only [Act.put, List.setIfInBounds_toArray, List.set_cons_zero, List.set_cons_succ]
    refine wpAnyH_take (i := 3) (oi := ⟨some 120, _, _, _, _, _⟩) (v := ?_) rfl (by kernel_rfl) (by kernel_rfl) (by kernel_rfl) (fun _ _ _ h => h) (Or.inl ⟨by rfl, ?_⟩) (by assumption) ?_
    rotate_left
    · intro w hSw; go_simp; first | done | with_reducible rfl
    try simp only [Act.put, List.setIfInBounds_toArray, List.set_cons_zero, List.set_cons_succ]
    refine wpAnyH_take (i := 4) (oi := ⟨some 121, _, _, _, _, _⟩) (v := ?_) rfl (by kernel_rfl) (by kernel_rfl) (by kernel_rfl) (fun _ _ _ h => h) (Or.inl ⟨by rfl, ?_⟩) (by assumption) ?_
    rotate_left
    · intro w hSw; go_simp; first | done | with_reducible rfl
    try simp only [Act.put, List.setIfInBounds_toArray, List.set_cons_zero, List.set_cons_succ]
    refine wpAnyH_take (i := 5) (oi := ⟨some 122, _, _, _, _, _⟩) (v := ?_) rfl (by kernel_rfl) (by kernel_rfl) (by kernel_rfl) (fun _ _ _ h => h) (Or.inl ⟨by rfl, ?_⟩) (by assumption) ?_
    rotate_left
    · intro w hSw; go_simp; first | done | with_reducible rfl
    try simp only [Act.put, List.setIfInBounds_toArray, List.set_cons_zero, List.set_cons_succ]
    refine wpAnyH_ready (rs := [6]) (by kernel_rfl) (by simp) ?_
    refine AllReadyH.cons (o := ⟨some 123, _, _, _, _, _⟩) rfl (fun K hK => ?_) AllReadyH.nil
    go_simp
    refine (dels_true k m e (R := fun v => Pt (More F u) v g seed c1 ∧ Only F u v) ((del_any DT.out k (by omega) (by omega) HPU.out).mono fun _ _ h => h)).mono ?_
    rintro r u2 ⟨rfl, ht, ho⟩
    have hze : u.heap.size ≤ u2.heap.size := ho.size
    have E10 := Lib.hid (D10.out.only ho (fun hf => by have := HFL.out _ hf; omega))
    have E2 := Lib.hid (D2.out.only ho (fun hf => by have := HFL.out _ hf; omega))
    have ES := Lib.hid (tb_only DS.out ho NFX.out NFY.out)
    have EB : Hid (Both N u2 (fun j => (F j ∨ u.heap.size ≤ j) ∧ j < u2.heap.size) g seed c1 X1 p1 Y1 q1) := HO.out.join hN ht.tight ES.out (by omega) (Nat.le_refl _) (fun a ha => (FX.out a ha).imp id (fun h => ⟨h, Or.inl (by have := LX.out a ha; omega)⟩)) (fun a ha => (FY.out a ha).imp id (fun h => ⟨h, Or.inl (by have := LY.out a ha; omega)⟩)) hc1l
    have EO := Lib.hid (DO.out.trans (ho.mono fun _ _ hf => Or.inl hf))
    have FF : Hid (∀ j, ((F j ∨ u.heap.size ≤ j) ∧ j < u2.heap.size) → F j ∨ w.heap.size ≤ j) := fun j hj => hj.1.imp id (fun h => by omega)
    clear ht ho
    go_simp
    refine hK.out _ _ (⟨E10.out.cell 0, E10.out.cell 1, E10.out.cell 2⟩) (fun hHeld => ?_)
    clear hK K
    try simp only [Act.put, List.setIfInBounds_toArray, List.set_cons_zero, List.set_cons_succ]
    refine wpAnyH_take (i := 7) (oi := ⟨some 6, _, _, _, _, _⟩) (v := ?_) rfl (by kernel_rfl) (by kernel_rfl) (by kernel_rfl) (fun _ _ _ h => h) (Or.inl ⟨by rfl, ?_⟩) (by assumption) ?_
    rotate_left
    · intro w hSw; go_simp; first | done | with_reducible rfl
    try simp only [Act.put, List.setIfInBounds_toArray, List.set_cons_zero, List.set_cons_succ]
    refine wpAnyH_ready (rs := [8]) (by kernel_rfl) (by simp) ?_
    refine AllReadyH.cons (o := ⟨none, _, _, _, _, _⟩) rfl (fun K hK => ?_) AllReadyH.nil
    obtain ⟨r0, r1, r2, rf0, rf1, rf2⟩ := E2.out.three
    go_simp
    obtain ⟨v9, hv9⟩ : ∃ v9, v9 = ((u2.setCell ⟨w.heap.size + 1 + 1, 0, none⟩ (.int .u64 seed)).setCell ⟨w.heap.size + 1 + 1, 1, none⟩ (.slice X1 c1.length p1)).setCell ⟨w.heap.size + 1 + 1, 2, none⟩ (.slice Y1 c1.length q1) := ⟨_, rfl⟩
    have O6 : Only (fun j => j = w.heap.size + 1 + 1) u2 v9 := by rw [hv9]; exact three_only _ _ _
    have G2 : Hid (Blk v9 (w.heap.size + 1 + 1) #[.int .u64 seed, .slice X1 c1.length p1, .slice Y1 c1.length q1] 31) := by
      have h1 := ((E2.out.set 0 (.int .u64 seed)).set 1 (.slice X1 c1.length p1)).set 2 (.slice Y1 c1.length q1)
      show Blk _ _ _ _
      rw [hv9]; exact h1
    have G10 := Lib.hid (E10.out.only O6 (by omega))
    have GB := Lib.hid (EB.out.only O6 (fun j e hf => by rcases hf.1 with hf | hf; (have := HFL.out _ hf; omega); omega) (fun a ha e => NX.out a ha e) (fun a ha e => NY.out a ha e))
    have GO := Lib.hid (EO.out.trans (O6.mono fun j _ e => Or.inr (by omega)))
    rw [← hv9]
    clear hv9 O6 r0 r1 r2 rf0 rf1 rf2
    refine hK.out _ _ (⟨G10.out.cell 0, G10.out.cell 1, G10.out.cell 2⟩) (fun hHeld => ?_)
    clear hK K
    try simp only [Act.put, List.setIfInBounds_toArray, List.set_cons_zero, List.set_cons_succ]
    refine wpAnyH_take (i := 9) (oi := ⟨some 8, _, _, _, _, _⟩) (v := ?_) rfl (by kernel_rfl) (by kernel_rfl) (by kernel_rfl) (fun _ _ _ h => h) (Or.inl ⟨by rfl, ?_⟩) (by assumption) ?_
    rotate_left
    · intro w hSw; go_simp; first | done | with_reducible rfl
    try simp only [Act.put, List.setIfInBounds_toArray, List.set_cons_zero, List.set_cons_succ]
    refine wpAnyH_done (by kernel_rfl) ?_ _
    refine NoPanic.normal ?_
    clear hHeld
    obtain ⟨r0, r1, r2, _⟩ := G2.out.three
    go_wp2_with fail
    exact bodyPost_ret (v := .tuple #[.pointer (some ⟨g, 0, none⟩), .agg #[.int .u64 seed, .slice X1 c1.length p1, .slice Y1 c1.length q1], .bool true]) (by simp [results, Try.results12, go_sem, r0, r1, r2]) rfl ⟨g, _, c1, X1, p1, Y1, q1, rfl, HCN.out, GB.out, GO.out, FX.out, FY.out, FF.out⟩
  · have h4' : n < 0 := by omega
    clear h4
    go_enter Try.func12, Try.ntmps12
    go_wp2_with fail
    rw [← hw0]
    clear hw0 y0 y1 y2
    refine HR.out.mono ?_
    rintro r w2 ⟨X1, p1, Y1, q1, rfl, hs, hb, fx, fy⟩
    have SS := Lib.hid hs
    have R2 := Lib.hid (P2.out.below hb P2.out.lt)
    have hz2 : w0.heap.size ≤ w2.heap.size := hb.size
    have hzw := HB0.out.size
    have FX : Hid (∀ a, X1 = some a → X = some a ∨ w.heap.size ≤ a.block) := fun a ha => (fx a ha).imp id (fun h => by omega)
    have FY : Hid (∀ a, Y1 = some a → Y = some a ∨ w.heap.size ≤ a.block) := fun a ha => (fy a ha).imp id (fun h => by omega)
    have LX : Hid (∀ a, X1 = some a → a.block < w2.heap.size) := (tb_lt hs hc1l).1
    have LY : Hid (∀ a, Y1 = some a → a.block < w2.heap.size) := (tb_lt hs hc1l).2
    have BT := Lib.hid (H0.out.t.below hb (Nat.le_refl _))
    have OO : Hid (Only F w w2) := (Only.of_below HB0.out (Nat.le_refl _) F).trans (Only.of_below hb (Nat.le_refl _) _)
    obtain ⟨w3, hw3⟩ : ∃ w3, w3 = w2.alloc (.cells #[.int .u64 seed, .slice X1 c1.length p1, .slice Y1 c1.length q1] 31) := ⟨_, rfl⟩
    obtain ⟨g10, hg10⟩ : ∃ g10, g10 = w2.heap.size := ⟨_, rfl⟩
    have b3 : Below w2.heap.size w2 w3 := by rw [hw3]; exact bnew w2 _
    have r10 : Blk w3 g10 #[.int .u64 seed, .slice X1 c1.length p1, .slice Y1 c1.length q1] 31 := by rw [hw3, hg10]; exact Blk.new w2 _ _
    have R10 := Lib.hid r10
    have R3 := Lib.hid (R2.out.below b3 R2.out.lt)
    have BT3 := Lib.hid (BT.out.below b3 (Nat.le_refl _))
    have SS3 := Lib.hid (SS.out.below b3 (Nat.le_refl _))
    have OO3 := Lib.hid (OO.out.trans (Only.of_below b3 (Nat.le_refl _) _))
    have n10 : w2.heap.size ≤ g10 ∧ g10 < w3.heap.size := ⟨by omega, r10.lt⟩
    have hz3 : w2.heap.size ≤ w3.heap.size := by omega
    have NX : Hid (∀ a, X1 = some a → a.block ≠ w.heap.size + 1 + 1) := fun a ha e => by rcases fx a ha with h | h; (have := (HO.out.xF a h).2; omega); omega
    have NY : Hid (∀ a, Y1 = some a → a.block ≠ w.heap.size + 1 + 1) := fun a ha e => by rcases fy a ha with h | h; (have := (HO.out.yF a h).2; omega); omega
    have NFX : Hid (∀ a, X1 = some a → ¬ F a.block) := fun a ha hf => by rcases fx a ha with h | h; exact (HO.out.xF a h).1 hf; (have := HFL.out _ hf; omega)
    have NFY : Hid (∀ a, Y1 = some a → ¬ F a.block) := fun a ha hf => by rcases fy a ha with h | h; exact (HO.out.yF a h).1 hf; (have := HFL.out _ hf; omega)
    obtain ⟨c0, c1', c2, _⟩ := r10.three
    clear hs hb fx fy HR b3 r10 a0 a1 a2
    go_upto_region 19 with (fail)
    rw [← hw3, ← hg10]
    clear hw3 hg10
    have D10 := Lib.hid (show Blk w3.drew g10 _ _ from R10.out)
    have D2 := Lib.hid (show Blk w3.drew (w.heap.size + 1 + 1) _ _ from R3.out)
    have DT := Lib.hid (BT3.out.below ((Below.refl w3.heap.size w3).drew) (Nat.le_refl _))
    have DS := Lib.hid (SS3.out.below ((Below.refl w3.heap.size w3).drew) (Nat.le_refl _))
    have DO := Lib.hid OO3.out.drew
    have hzd : w3.heap.size ≤ w3.drew.heap.size := Nat.le_refl _
    refine wp_region_noPanic ?_
    refine wp_region_held_drew (S := fun v => v.cell? ⟨g10, 0, none⟩ = some (.int .u64 seed) ∧ v.cell? ⟨g10, 1, none⟩ = some (.slice X1 c1.length p1) ∧ v.cell? ⟨g10, 2, none⟩ = some (.slice Y1 c1.length q1)) (by kernel_rfl) (⟨c0, c1', c2⟩) (fun hHeld => ?_)
    generalize w3.drew = u at D10 D2 DT DS DO hzd hHeld ⊢
    refine wpAnyH_take (i := 0) (oi := ⟨some 117, _, _, _, _, _⟩) (v := ?_) rfl (by kernel_rfl) (by kernel_rfl) (by kernel_rfl) (fun _ _ _ h => h) (Or.inl ⟨by rfl, ?_⟩) (by assumption) ?_
    rotate_left
    · intro w hSw; go_simp; first | done | with_reducible rfl
    try simp only [Act.put, List.setIfInBounds_toArray, List.set_cons_zero, List.set_cons_succ]
    refine wpAnyH_take (i := 1) (oi := ⟨some 118, _, _, _, _, _⟩) (v := ?_) rfl (by kernel_rfl) (by kernel_rfl) (by kernel_rfl) (fun _ _ _ h => h) (Or.inl ⟨by rfl, ?_⟩) (by assumption) ?_
    rotate_left
    · intro w hSw; go_simp; first | done | with_reducible rfl
    try simp only [Act.put, List.setIfInBounds_toArray, List.set_cons_zero, List.set_cons_succ]
    refine wpAnyH_take (i := 2) (oi := ⟨some 119, _, _, _, _, _⟩) (v := ?_) rfl (by kernel_rfl) (by kernel_rfl) (by kernel_rfl) (fun _ _ _ h => h) (Or.inl ⟨by rfl, ?_⟩) (by assumption) ?_
    rotate_left
    · intro w hSw; go_simp; first | done | with_reducible rfl
    try simp only [Act.put, List.setIfInBounds_toArray, List.set_cons_zero, List.set_cons_succ]
    refine wpAnyH_take (i := 3) (oi := ⟨some 120, _, _, _, _, _⟩) (v := ?_) rfl (by kernel_rfl) (by kernel_rfl) (by kernel_rfl) (fun _ _ _ h => h) (Or.inl ⟨by rfl, ?_⟩) (by assumption) ?_
    rotate_left
    · intro w hSw; go_simp; first | done | with_reducible rfl
    try simp only [Act.put, List.setIfInBounds_toArray, List.set_cons_zero, List.set_cons_succ]
    refine wpAnyH_take (i := 4) (oi := ⟨some 121, _, _, _, _, _⟩) (v := ?_) rfl (by kernel_rfl) (by kernel_rfl) (by kernel_rfl) (fun _ _ _ h => h) (Or.inl ⟨by rfl, ?_⟩) (by assumption) ?_
    rotate_left
    · intro w hSw; go_simp; first | done | with_reducible rfl
    try simp only [Act.put, List.setIfInBounds_toArray, List.set_cons_zero, List.set_cons_succ]
    refine wpAnyH_take (i := 5) (oi := ⟨some 122, _, _, _, _, _⟩) (v := ?_) rfl (by kernel_rfl) (by kernel_rfl) (by kernel_rfl) (fun _ _ _ h => h) (Or.inl ⟨by rfl, ?_⟩) (by assumption) ?_
    rotate_left
    · intro w hSw; go_simp; first | done | with_reducible rfl
    try simp only [Act.put, List.setIfInBounds_toArray, List.set_cons_zero, List.set_cons_succ]
    refine wpAnyH_ready (rs := [6]) (by kernel_rfl) (by simp) ?_
    refine AllReadyH.cons (o := ⟨some 123, _, _, _, _, _⟩) rfl (fun K hK => ?_) AllReadyH.nil
    go_simp
    refine (dels_true k m e (R := fun v => Pt (More F u) v g seed c1 ∧ Only F u v) ((del_any DT.out k (by omega) (by omega) HPU.out).mono fun _ _ h => h)).mono ?_
    rintro r u2 ⟨rfl, ht, ho⟩
    have hze : u.heap.size ≤ u2.heap.size := ho.size
    have E10 := Lib.hid (D10.out.only ho (fun hf => by have := HFL.out _ hf; omega))
    have E2 := Lib.hid (D2.out.only ho (fun hf => by have := HFL.out _ hf; omega))
    have ES := Lib.hid (tb_only DS.out ho NFX.out NFY.out)
    have EB : Hid (Both N u2 (fun j => (F j ∨ u.heap.size ≤ j) ∧ j < u2.heap.size) g seed c1 X1 p1 Y1 q1) := HO.out.join hN ht.tight ES.out (by omega) (Nat.le_refl _) (fun a ha => (FX.out a ha).imp id (fun h => ⟨h, Or.inl (by have := LX.out a ha; omega)⟩)) (fun a ha => (FY.out a ha).imp id (fun h => ⟨h, Or.inl (by have := LY.out a ha; omega)⟩)) hc1l
    have EO := Lib.hid (DO.out.trans (ho.mono fun _ _ hf => Or.inl hf))
    have FF : Hid (∀ j, ((F j ∨ u.heap.size ≤ j) ∧ j < u2.heap.size) → F j ∨ w.heap.size ≤ j) := fun j hj => hj.1.imp id (fun h => by omega)
    clear ht ho
    go_simp
    refine hK.out _ _ (⟨E10.out.cell 0, E10.out.cell 1, E10.out.cell 2⟩) (fun hHeld => ?_)
    clear hK K
    try simp only [Act.put, List.setIfInBounds_toArray, List.set_cons_zero, List.set_cons_succ]
    refine wpAnyH_take (i := 7) (oi := ⟨some 6, _, _, _, _, _⟩) (v := ?_) rfl (by kernel_rfl) (by kernel_rfl) (by kernel_rfl) (fun _ _ _ h => h) (Or.inl ⟨by rfl, ?_⟩) (by assumption) ?_
    rotate_left
    · intro w hSw; go_simp; first | done | with_reducible rfl
    try simp only [Act.put, List.setIfInBounds_toArray, List.set_cons_zero, List.set_cons_succ]
    refine wpAnyH_ready (rs := [8]) (by kernel_rfl) (by simp) ?_
    refine AllReadyH.cons (o := ⟨none, _, _, _, _, _⟩) rfl (fun K hK => ?_) AllReadyH.nil
    obtain ⟨r0, r1, r2, rf0, rf1, rf2⟩ := E2.out.three
    go_simp
    obtain ⟨v9, hv9⟩ : ∃ v9, v9 = ((u2.setCell ⟨w.heap.size + 1 + 1, 0, none⟩ (.int .u64 seed)).setCell ⟨w.heap.size + 1 + 1, 1, none⟩ (.slice X1 c1.length p1)).setCell ⟨w.heap.size + 1 + 1, 2, none⟩ (.slice Y1 c1.length q1) := ⟨_, rfl⟩
    have O6 : Only (fun j => j = w.heap.size + 1 + 1) u2 v9 := by rw [hv9]; exact three_only _ _ _
    have G2 : Hid (Blk v9 (w.heap.size + 1 + 1) #[.int .u64 seed, .slice X1 c1.length p1, .slice Y1 c1.length q1] 31) := by
      have h1 := ((E2.out.set 0 (.int .u64 seed)).set 1 (.slice X1 c1.length p1)).set 2 (.slice Y1 c1.length q1)
      show Blk _ _ _ _
      rw [hv9]; exact h1
    have G10 := Lib.hid (E10.out.only O6 (by omega))
    have GB := Lib.hid (EB.out.only O6 (fun j e hf => by rcases hf.1 with hf | hf; (have := HFL.out _ hf; omega); omega) (fun a ha e => NX.out a ha e) (fun a ha e => NY.out a ha e))
    have GO := Lib.hid (EO.out.trans (O6.mono fun j _ e => Or.inr (by omega)))
    rw [← hv9]
    clear hv9 O6 r0 r1 r2 rf0 rf1 rf2
    refine hK.out _ _ (⟨G10.out.cell 0, G10.out.cell 1, G10.out.cell 2⟩) (fun hHeld => ?_)
    clear hK K
    try simp only [Act.put, List.setIfInBounds_toArray, List.set_cons_zero, List.set_cons_succ]
    refine wpAnyH_take (i := 9) (oi := ⟨some 8, _, _, _, _, _⟩) (v := ?_) rfl (by kernel_rfl) (by kernel_rfl) (by kernel_rfl) (fun _ _ _ h => h) (Or.inl ⟨by rfl, ?_⟩) (by assumption) ?_
    rotate_left
    · intro w hSw; go_simp; first | done | with_reducible rfl
    try simp only [Act.put, List.setIfInBounds_toArray, List.set_cons_zero, List.set_cons_succ]
    refine wpAnyH_done (by kernel_rfl) ?_ _
    refine NoPanic.normal ?_
    clear hHeld
    obtain ⟨r0, r1, r2, _⟩ := G2.out.three
    go_wp2_with fail
    exact bodyPost_ret (v := .tuple #[.pointer (some ⟨g, 0, none⟩), .agg #[.int .u64 seed, .slice X1 c1.length p1, .slice Y1 c1.length q1], .bool true]) (by simp [results, Try.results12, go_sem, r0, r1, r2]) rfl ⟨g, _, c1, X1, p1, Y1, q1, rfl, HCN.out, GB.out, GO.out, FX.out, FY.out, FF.out⟩
set_option maxRecDepth 100000 in
set_option maxHeartbeats 4000000 in
theorem do4 {N : Nat} {w : World} {F : Nat → Prop} {g : Nat} {seed : Int} {c : List (Cell Key)} {X Y : Option Addr} {p q : Nat} (h : Both N w F g seed c X p Y q) (hN : N ≤ w.heap.size) (hn : c.length ≤ 10000) (k : Key) (hk : k.length ≤ 300) (n : Int) (hx : n ≤ 9223372036854775807) (hn0 : 0 ≤ n) :
    Calls Try.prog 12 #[.pointer (some ⟨g, 0, none⟩), .agg #[.int .u64 seed, .slice X c.length p, .slice Y c.length q], .agg #[.int .i64 4, .string ⟨k.toArray⟩, .int .i64 n]] w (doPost N w F seed c X Y) := by
  obtain ⟨w0, hw0⟩ : ∃ w0, w0 = ((w.alloc (.cells #[.int .u64 seed, .slice X c.length p, .slice Y c.length q] 31)).alloc (.cells #[.int .i64 4, .string ⟨k.toArray⟩, .int .i64 n] 34)).alloc (.cells #[.int .u64 0, .slice none 0 0, .slice none 0 0] 31) := ⟨_, rfl⟩
  have b0 : Below w.heap.size w w0 := by rw [hw0]; exact ((bnew w _).alloc (by simp) _).alloc (by simp; omega) _
  have p0 : Blk w0 w.heap.size #[.int .u64 seed, .slice X c.length p, .slice Y c.length q] 31 := by rw [hw0]; exact ((Blk.new w _ _).below (bnew _ _) (by simp)).below (bnew _ _) (by simp; omega)
  have p1 : Blk w0 (w.heap.size + 1) #[.int .i64 4, .string ⟨k.toArray⟩, .int .i64 n] 34 := by
    have h := Blk.new (w.alloc (.cells #[.int .u64 seed, .slice X c.length p, .slice Y c.length q] 31)) #[.int .i64 4, .string ⟨k.toArray⟩, .int .i64 n] 34
    rw [show (w.alloc (.cells #[.int .u64 seed, .slice X c.length p, .slice Y c.length q] 31)).heap.size = w.heap.size + 1 by simp] at h
    rw [hw0]; exact h.below (bnew _ _) (by simp)
  have p2 : Blk w0 (w.heap.size + 1 + 1) #[.int .u64 0, .slice none 0 0, .slice none 0 0] 31 := by
    have h := Blk.new ((w.alloc (.cells #[.int .u64 seed, .slice X c.length p, .slice Y c.length q] 31)).alloc (.cells #[.int .i64 4, .string ⟨k.toArray⟩, .int .i64 n] 34)) #[.int .u64 0, .slice none 0 0, .slice none 0 0] 31
    rw [hw0]; simpa using h
  have hz0 : w.heap.size + 1 + 1 < w0.heap.size := p2.lt
  have HB0 := Lib.hid b0; have P0 := Lib.hid p0; have P1 := Lib.hid p1; have P2 := Lib.hid p2
  have HO := Lib.hid h
  have H0 := Lib.hid (h.below b0 (Nat.le_refl _))
  have HFL : Hid (∀ j, F j → j < w.heap.size) := fun j hj => (HO.out.fl j hj).2
  have HKY := Lib.hid h.t.pl.kys; have HSD := Lib.hid h.t.pl.sd; have HGD := Lib.hid h.t.good
  obtain ⟨y0, y1, y2, _⟩ := p1.three
  unfold doPost
  have hu := And.intro hN (And.intro hn (And.intro hk hx))
  clear h b0 p0 p1 p2 hu
  obtain ⟨x, rfl⟩ : ∃ x : Nat, n = (x : Int) := ⟨n.toNat, by omega⟩
  have hlo := HGD.out.lo
  obtain ⟨i, hi⟩ : ∃ i, i = x % c.length := ⟨_, rfl⟩
  have hil : i < c.length := by rw [hi]; exact Nat.mod_lt _ (by omega)
  have HIE : Hid ((x : Int).tmod (c.length : Int) = (i : Int)) := by show _ = _; rw [hi]; exact (Int.ofNat_tmod x c.length).symm
  have HIM : Hid ((x : Int) % (c.length : Int) = (i : Int)) := by show _ = _; rw [hi]; simp
  obtain ⟨o, hgo, _⟩ := get_of hil
  obtain ⟨ky, hky⟩ : ∃ ky, ky = ck o := ⟨_, rfl⟩
  have hkyl : ky.length ≤ 300 := by
    rw [hky]
    cases o with
    | none => simp [ck]
    | some kx => obtain ⟨k', x'⟩ := kx; have := (HKY.out k' x' (List.mem_of_getElem? hgo)).2.1; show k'.length ≤ 300; omega
  have hkc : (kc c)[i]? = some (.string ⟨ky.toArray⟩) := by unfold kc; rw [List.getElem?_map, hgo, hky]; rfl
  obtain ⟨tb, to_, hXe, ltb, z0⟩ := H0.out.s.ks.rd.at_ hkc
  obtain ⟨c1, m, e, hP, hc1⟩ := dels_ex HGD.out ky
  have HCN := Lib.hid hc1
  have HPU := Lib.hid hP
  have hc1l : 0 < c1.length := by
    rcases hP with ⟨rfl, _⟩ | ⟨_, ⟨i, x, hi, _, rfl⟩, _⟩
    · have := HGD.out.lo; omega
    · have := (del_good HGD.out hi).1.lo; omega
  obtain ⟨a0, a1, a2, _⟩ := P0.out.three
  have a1' : w0.cell? ⟨w.heap.size, 1, none⟩ = some (.slice (some ⟨tb, to_, none⟩) c.length p) := by rw [← hXe]; exact a1
  have HHP := Lib.hid hP
  have hn1 : (0 : Int) ≤ (x : Int) := by omega
  have i1 : (i : Int) < (c.length : Int) := by omega
  have l0 : w.heap.size < w0.heap.size := by omega
  have l1 : w.heap.size + 1 < w0.heap.size := by omega
  have j1 : (8 : Int) ≤ (c.length : Int) := by omega
  have j2 : (c.length : Int) ≤ 10000 := by omega
  have j3 : (c.length : Int) ≠ 0 := by omega
  have m1 := HIE.out
  have m2 := HIM.out
  clear hP hc1 hi hgo hky hkc hn0 hXe a1
  go_enter Try.func12, Try.ntmps12
  go_upto_region 17 with (fail)
  rw [← hw0]
  clear hw0
  go_quiet (fail)
  obtain ⟨v, hv⟩ : ∃ v, v = w0.drewN nq := ⟨_, rfl⟩
  have bv : Below w0.heap.size w0 v := by rw [hv]; exact below_drewN (Below.refl _ _) nq
  have PV0 := Lib.hid (P0.out.below bv P0.out.lt); have PV2 := Lib.hid (P2.out.below bv P2.out.lt)
  have HV := Lib.hid (H0.out.below bv (Nat.le_refl _))
  have HBv := Lib.hid (HB0.out.trans (bv.mono (by omega)))
  have hzv : w0.heap.size ≤ v.heap.size := bv.size
  have HR := Lib.hid (rdel_any HV.out.s HGD.out HKY.out HSD.out ky (by omega) (by omega) HHP.out)
  unfold tabPost at HR
  rw [← hv]
  clear hv bv a0 a1' a2 y0 y1 y2 z0 m1 m2 l0 l1
  obtain ⟨a0, a1, a2, _⟩ := PV0.out.three
  go_wp2_with fail
  refine HR.out.mono ?_
  rintro r w2 ⟨X1, p1, Y1, q1, rfl, hs, hb, fx, fy⟩
  have SS := Lib.hid hs
  have R2 := Lib.hid (PV2.out.below hb PV2.out.lt)
  have hz2 : v.heap.size ≤ w2.heap.size := hb.size
  have hzw := HBv.out.size
  have FX : Hid (∀ a, X1 = some a → X = some a ∨ w.heap.size ≤ a.block) := fun a ha => (fx a ha).imp id (fun h => by omega)
  have FY : Hid (∀ a, Y1 = some a → Y = some a ∨ w.heap.size ≤ a.block) := fun a ha => (fy a ha).imp id (fun h => by omega)
  have LX : Hid (∀ a, X1 = some a → a.block < w2.heap.size) := (tb_lt hs hc1l).1
  have LY : Hid (∀ a, Y1 = some a → a.block < w2.heap.size) := (tb_lt hs hc1l).2
  have BT := Lib.hid (HV.out.t.below hb (Nat.le_refl _))
  have OO : Hid (Only F w w2) := (Only.of_below HBv.out (Nat.le_refl _) F).trans (Only.of_below hb (Nat.le_refl _) _)
  obtain ⟨w3, hw3⟩ : ∃ w3, w3 = w2.alloc (.cells #[.int .u64 seed, .slice X1 c1.length p1, .slice Y1 c1.length q1] 31) := ⟨_, rfl⟩
  obtain ⟨g10, hg10⟩ : ∃ g10, g10 = w2.heap.size := ⟨_, rfl⟩
  have b3 : Below w2.heap.size w2 w3 := by rw [hw3]; exact bnew w2 _
  have r10 : Blk w3 g10 #[.int .u64 seed, .slice X1 c1.length p1, .slice Y1 c1.length q1] 31 := by rw [hw3, hg10]; exact Blk.new w2 _ _
  have R10 := Lib.hid r10
  have R3 := Lib.hid (R2.out.below b3 R2.out.lt)
  have BT3 := Lib.hid (BT.out.below b3 (Nat.le_refl _))
  have SS3 := Lib.hid (SS.out.below b3 (Nat.le_refl _))
  have OO3 := Lib.hid (OO.out.trans (Only.of_below b3 (Nat.le_refl _) _))
  have n10 : w2.heap.size ≤ g10 ∧ g10 < w3.heap.size := ⟨by omega, r10.lt⟩
  have hz3 : w2.heap.size ≤ w3.heap.size := by omega
  have NX : Hid (∀ a, X1 = some a → a.block ≠ w.heap.size + 1 + 1) := fun a ha e => by rcases fx a ha with h | h; (have := (HO.out.xF a h).2; omega); omega
  have NY : Hid (∀ a, Y1 = some a → a.block ≠ w.heap.size + 1 + 1) := fun a ha e => by rcases fy a ha with h | h; (have := (HO.out.yF a h).2; omega); omega
  have NFX : Hid (∀ a, X1 = some a → ¬ F a.block) := fun a ha hf => by rcases fx a ha with h | h; exact (HO.out.xF a h).1 hf; (have := HFL.out _ hf; omega)
  have NFY : Hid (∀ a, Y1 = some a → ¬ F a.block) := fun a ha hf => by rcases fy a ha with h | h; exact (HO.out.yF a h).1 hf; (have := HFL.out _ hf; omega)
  obtain ⟨c0, c1', c2, _⟩ := r10.three
  clear hs hb fx fy HR b3 r10 a0 a1 a2
  go_upto_region 19 with (fail)
  rw [← hw3, ← hg10]
  clear hw3 hg10
  have D10 := Lib.hid (show Blk w3.drew g10 _ _ from R10.out)
  have D2 := Lib.hid (show Blk w3.drew (w.heap.size + 1 + 1) _ _ from R3.out)
  have DT := Lib.hid (BT3.out.below ((Below.refl w3.heap.size w3).drew) (Nat.le_refl _))
  have DS := Lib.hid (SS3.out.below ((Below.refl w3.heap.size w3).drew) (Nat.le_refl _))
  have DO := Lib.hid OO3.out.drew
  have hzd : w3.heap.size ≤ w3.drew.heap.size := Nat.le_refl _
  refine wp_region_noPanic ?_
  refine wp_region_held_drew (S := fun v => v.cell? ⟨g10, 0, none⟩ = some (.int .u64 seed) ∧ v.cell? ⟨g10, 1, none⟩ = some (.slice X1 c1.length p1) ∧ v.cell? ⟨g10, 2, none⟩ = some (.slice Y1 c1.length q1)) (by kernel_rfl) (⟨c0, c1', c2⟩) (fun hHeld => ?_)
  generalize w3.drew = u at D10 D2 DT DS DO hzd hHeld ⊢
  refine wpAnyH_take (i := 0) (oi := ⟨some 117, _, _, _, _, _⟩) (v := ?_) rfl (by kernel_rfl) (by kernel_rfl) (by kernel_rfl) (fun _ _ _ h => h) (Or.inl ⟨by rfl, ?_⟩) (by assumption) ?_
  rotate_left
  · intro w hSw; go_simp; first | done | with_reducible rfl
  try simp only [Act.put, List.setIfInBounds_toArray, List.set_cons_zero, List.set_cons_succ]
  refine wpAnyH_take (i := 1) (oi := ⟨some 118, _, _, _, _, _⟩) (v := ?_) rfl (by kernel_rfl) (by kernel_rfl) (by kernel_rfl) (fun _ _ _ h => h) (Or.inl ⟨by rfl, ?_⟩) (by assumption) ?_
  rotate_left
  · intro w hSw; go_simp; first | done | with_reducible rfl
  try simp only [Act.put, List.setIfInBounds_toArray, List.set_cons_zero, List.set_cons_succ]
  refine wpAnyH_take (i := 2) (oi := ⟨some 119, _, _, _, _, _⟩) (v := ?_) rfl (by kernel_rfl) (by kernel_rfl) (by kernel_rfl) (fun _ _ _ h => h) (Or.inl ⟨by rfl, ?_⟩) (by assumption) ?_
  rotate_left
  · intro w hSw; go_simp; first | done | with_reducible rfl
  try simp only [Act.put, List.setIfInBounds_toArray, List.set_cons_zero, List.set_cons_succ]
  refine wpAnyH_take (i := 3) (oi := ⟨some 120, _, _, _, _, _⟩) (v := ?_) rfl (by kernel_rfl) (by kernel_rfl) (by kernel_rfl) (fun _ _ _ h => h) (Or.inl ⟨by rfl, ?_⟩) (by assumption) ?_
  rotate_left
  · intro w hSw; go_simp; first | done | with_reducible rfl
  try simp only [Act.put, List.setIfInBounds_toArray, List.set_cons_zero, List.set_cons_succ]
  refine wpAnyH_take (i := 4) (oi := ⟨some 121, _, _, _, _, _⟩) (v := ?_) rfl (by kernel_rfl) (by kernel_rfl) (by kernel_rfl) (fun _ _ _ h => h) (Or.inl ⟨by rfl, ?_⟩) (by assumption) ?_
  rotate_left
  · intro w hSw; go_simp; first | done | with_reducible rfl
  try simp only [Act.put, List.setIfInBounds_toArray, List.set_cons_zero, List.set_cons_succ]
  refine wpAnyH_take (i := 5) (oi := ⟨some 122, _, _, _, _, _⟩) (v := ?_) rfl (by kernel_rfl) (by kernel_rfl) (by kernel_rfl) (fun _ _ _ h => h) (Or.inl ⟨by rfl, ?_⟩) (by assumption) ?_
  rotate_left
  · intro w hSw; go_simp; first | done | with_reducible rfl
  try simp only [Act.put, List.setIfInBounds_toArray, List.set_cons_zero, List.set_cons_succ]
  refine wpAnyH_ready (rs := [6]) (by kernel_rfl) (by simp) ?_
  refine AllReadyH.cons (o := ⟨some 123, _, _, _, _, _⟩) rfl (fun K hK => ?_) AllReadyH.nil
  go_simp
  refine (dels_true ky m e (R := fun v => Pt (More F u) v g seed c1 ∧ Only F u v) ((del_any DT.out ky (by omega) (by omega) HPU.out).mono fun _ _ h => h)).mono ?_
  rintro r u2 ⟨rfl, ht, ho⟩
  have hze : u.heap.size ≤ u2.heap.size := ho.size
  have E10 := Lib.hid (D10.out.only ho (fun hf => by have := HFL.out _ hf; omega))
  have E2 := Lib.hid (D2.out.only ho (fun hf => by have := HFL.out _ hf; omega))
  have ES := Lib.hid (tb_only DS.out ho NFX.out NFY.out)
  have EB : Hid (Both N u2 (fun j => (F j ∨ u.heap.size ≤ j) ∧ j < u2.heap.size) g seed c1 X1 p1 Y1 q1) := HO.out.join hN ht.tight ES.out (by omega) (Nat.le_refl _) (fun a ha => (FX.out a ha).imp id (fun h => ⟨h, Or.inl (by have := LX.out a ha; omega)⟩)) (fun a ha => (FY.out a ha).imp id (fun h => ⟨h, Or.inl (by have := LY.out a ha; omega)⟩)) hc1l
  have EO := Lib.hid (DO.out.trans (ho.mono fun _ _ hf => Or.inl hf))
  have FF : Hid (∀ j, ((F j ∨ u.heap.size ≤ j) ∧ j < u2.heap.size) → F j ∨ w.heap.size ≤ j) := fun j hj => hj.1.imp id (fun h => by omega)
  clear ht ho
  go_simp
  refine hK.out _ _ (⟨E10.out.cell 0, E10.out.cell 1, E10.out.cell 2⟩) (fun hHeld => ?_)
  clear hK K
  try simp only [Act.put, List.setIfInBounds_toArray, List.set_cons_zero, List.set_cons_succ]
  refine wpAnyH_take (i := 7) (oi := ⟨some 6, _, _, _, _, _⟩) (v := ?_) rfl (by kernel_rfl) (by kernel_rfl) (by kernel_rfl) (fun _ _ _ h => h) (Or.inl ⟨by rfl, ?_⟩) (by assumption) ?_
  rotate_left
  · intro w hSw; go_simp; first | done | with_reducible rfl
  try simp only [Act.put, List.setIfInBounds_toArray, List.set_cons_zero, List.set_cons_succ]
  refine wpAnyH_ready (rs := [8]) (by kernel_rfl) (by simp) ?_
  refine AllReadyH.cons (o := ⟨none, _, _, _, _, _⟩) rfl (fun K hK => ?_) AllReadyH.nil
  obtain ⟨r0, r1, r2, rf0, rf1, rf2⟩ := E2.out.three
  go_simp
  obtain ⟨v9, hv9⟩ : ∃ v9, v9 = ((u2.setCell ⟨w.heap.size + 1 + 1, 0, none⟩ (.int .u64 seed)).setCell ⟨w.heap.size + 1 + 1, 1, none⟩ (.slice X1 c1.length p1)).setCell ⟨w.heap.size + 1 + 1, 2, none⟩ (.slice Y1 c1.length q1) := ⟨_, rfl⟩
  have O6 : Only (fun j => j = w.heap.size + 1 + 1) u2 v9 := by rw [hv9]; exact three_only _ _ _
  have G2 : Hid (Blk v9 (w.heap.size + 1 + 1) #[.int .u64 seed, .slice X1 c1.length p1, .slice Y1 c1.length q1] 31) := by
    have h1 := ((E2.out.set 0 (.int .u64 seed)).set 1 (.slice X1 c1.length p1)).set 2 (.slice Y1 c1.length q1)
    show Blk _ _ _ _
    rw [hv9]; exact h1
  have G10 := Lib.hid (E10.out.only O6 (by omega))
  have GB := Lib.hid (EB.out.only O6 (fun j e hf => by rcases hf.1 with hf | hf; (have := HFL.out _ hf; omega); omega) (fun a ha e => NX.out a ha e) (fun a ha e => NY.out a ha e))
  have GO := Lib.hid (EO.out.trans (O6.mono fun j _ e => Or.inr (by omega)))
  rw [← hv9]
  clear hv9 O6 r0 r1 r2 rf0 rf1 rf2
  refine hK.out _ _ (⟨G10.out.cell 0, G10.out.cell 1, G10.out.cell 2⟩) (fun hHeld => ?_)
  clear hK K
  try simp only [Act.put, List.setIfInBounds_toArray, List.set_cons_zero, List.set_cons_succ]
  refine wpAnyH_take (i := 9) (oi := ⟨some 8, _, _, _, _, _⟩) (v := ?_) rfl (by kernel_rfl) (by kernel_rfl) (by kernel_rfl) (fun _ _ _ h => h) (Or.inl ⟨by rfl, ?_⟩) (by assumption) ?_
  rotate_left
  · intro w hSw; go_simp; first | done | with_reducible rfl
  try simp only [Act.put, List.setIfInBounds_toArray, List.set_cons_zero, List.set_cons_succ]
  refine wpAnyH_done (by kernel_rfl) ?_ _
  refine NoPanic.normal ?_
  clear hHeld
  obtain ⟨r0, r1, r2, _⟩ := G2.out.three
  go_wp2_with fail
  exact bodyPost_ret (v := .tuple #[.pointer (some ⟨g, 0, none⟩), .agg #[.int .u64 seed, .slice X1 c1.length p1, .slice Y1 c1.length q1], .bool true]) (by simp [results, Try.results12, go_sem, r0, r1, r2]) rfl ⟨g, _, c1, X1, p1, Y1, q1, rfl, HCN.out, GB.out, GO.out, FX.out, FY.out, FF.out⟩
set_option maxRecDepth 100000 in
set_option maxHeartbeats 4000000 in
theorem do5 {N : Nat} {w : World} {F : Nat → Prop} {g : Nat} {seed : Int} {c : List (Cell Key)} {X Y : Option Addr} {p q : Nat} (h : Both N w F g seed c X p Y q) (hN : N ≤ w.heap.size) (hn : c.length ≤ 10000) (a : Int) (k : Key) (hk : k.length ≤ 300) (n : Int) (hx : n ≤ 9223372036854775807) (q0 : a ≠ 0) (q1 : a ≠ 1) (q2 : a ≠ 2) (q3 : a ≠ 3) (q4 : a ≠ 4) :
    Calls Try.prog 12 #[.pointer (some ⟨g, 0, none⟩), .agg #[.int .u64 seed, .slice X c.length p, .slice Y c.length q], .agg #[.int .i64 a, .string ⟨k.toArray⟩, .int .i64 n]] w (doPost N w F seed c X Y) := by
  obtain ⟨w0, hw0⟩ : ∃ w0, w0 = ((w.alloc (.cells #[.int .u64 seed, .slice X c.length p, .slice Y c.length q] 31)).alloc (.cells #[.int .i64 a, .string ⟨k.toArray⟩, .int .i64 n] 34)).alloc (.cells #[.int .u64 0, .slice none 0 0, .slice none 0 0] 31) := ⟨_, rfl⟩
  have b0 : Below w.heap.size w w0 := by rw [hw0]; exact ((bnew w _).alloc (by simp) _).alloc (by simp; omega) _
  have p0 : Blk w0 w.heap.size #[.int .u64 seed, .slice X c.length p, .slice Y c.length q] 31 := by rw [hw0]; exact ((Blk.new w _ _).below (bnew _ _) (by simp)).below (bnew _ _) (by simp; omega)
  have p1 : Blk w0 (w.heap.size + 1) #[.int .i64 a, .string ⟨k.toArray⟩, .int .i64 n] 34 := by
    have h := Blk.new (w.alloc (.cells #[.int .u64 seed, .slice X c.length p, .slice Y c.length q] 31)) #[.int .i64 a, .string ⟨k.toArray⟩, .int .i64 n] 34
    rw [show (w.alloc (.cells #[.int .u64 seed, .slice X c.length p, .slice Y c.length q] 31)).heap.size = w.heap.size + 1 by simp] at h
    rw [hw0]; exact h.below (bnew _ _) (by simp)
  have p2 : Blk w0 (w.heap.size + 1 + 1) #[.int .u64 0, .slice none 0 0, .slice none 0 0] 31 := by
    have h := Blk.new ((w.alloc (.cells #[.int .u64 seed, .slice X c.length p, .slice Y c.length q] 31)).alloc (.cells #[.int .i64 a, .string ⟨k.toArray⟩, .int .i64 n] 34)) #[.int .u64 0, .slice none 0 0, .slice none 0 0] 31
    rw [hw0]; simpa using h
  have hz0 : w.heap.size + 1 + 1 < w0.heap.size := p2.lt
  have HB0 := Lib.hid b0; have P0 := Lib.hid p0; have P1 := Lib.hid p1; have P2 := Lib.hid p2
  have HO := Lib.hid h
  have H0 := Lib.hid (h.below b0 (Nat.le_refl _))
  have HFL : Hid (∀ j, F j → j < w.heap.size) := fun j hj => (HO.out.fl j hj).2
  have HKY := Lib.hid h.t.pl.kys; have HSD := Lib.hid h.t.pl.sd; have HGD := Lib.hid h.t.good
  obtain ⟨y0, y1, y2, _⟩ := p1.three
  unfold doPost
  have hu := And.intro hN (And.intro hn (And.intro hk hx))
  clear h b0 p0 p1 p2 hu
  have hlo := HGD.out.lo
  have hfew := HGD.out.few
  have hhi := HGD.out.hi
  have HCN : Hid (cnt c ≤ cnt c + 1) := Nat.le_succ _
  have HCP := Lib.hid (copy_any H0.out.t)
  unfold Ph.copyPost at HCP
  obtain ⟨d1, e1, hP1, hd1⟩ := puts_ex HGD.out [111, 108, 100] 1
  have HP1 := Lib.hid hP1
  have i0 : (a == 0) = false := by rw [beq_eq_false_iff_ne]; exact q0
  have i1 : (a == 1) = false := by rw [beq_eq_false_iff_ne]; exact q1
  have i2 : (a == 2) = false := by rw [beq_eq_false_iff_ne]; exact q2
  have i3 : (a == 3) = false := by rw [beq_eq_false_iff_ne]; exact q3
  have i4 : (a == 4) = false := by rw [beq_eq_false_iff_ne]; exact q4
  have FX : Hid (∀ a, X = some a → X = some a ∨ w.heap.size ≤ a.block) := fun a ha => Or.inl ha
  have FY : Hid (∀ a, Y = some a → Y = some a ∨ w.heap.size ≤ a.block) := fun a ha => Or.inl ha
  clear hP1 q0 q1 q2 q3 q4
  go_enter Try.func12, Try.ntmps12
  go_wp2_with fail
  rw [← hw0]
  clear hw0 y0 y1 y2
  refine HCP.out.mono ?_
  rintro r v0 ⟨g2, rfl, hc, hb⟩
  have KC := Lib.hid hc.tight
  have K0 := Lib.hid (P0.out.below hb P0.out.lt)
  have KZ := Lib.hid (P2.out.below hb P2.out.lt)
  have KV := Lib.hid (H0.out.below hb (Nat.le_refl _))
  have KB := Lib.hid (HB0.out.trans (hb.mono HB0.out.size))
  have lz0 : w0.heap.size ≤ v0.heap.size := hb.size
  have HTK := Lib.hid (put_any KV.out.t [111, 108, 100] (by decide) (by omega) (by omega) HP1.out)
  unfold putPost at HTK
  clear hc hb HCP
  go_wp2_with fail
  refine HTK.out.mono ?_
  rintro r v1 ⟨rfl, ha, ho⟩
  have C1 := Lib.hid (KC.out.only ho (fun j hj hf => by have := HFL.out _ hf; have := hj.1; omega))
  have J0 := Lib.hid (K0.out.only ho (fun hf => by have := HFL.out _ hf; omega))
  have JZ := Lib.hid (KZ.out.only ho (fun hf => by have := HFL.out _ hf; omega))
  have JS := Lib.hid (tb_only KV.out.s ho (fun a ha hf => (HO.out.xF a ha).1 hf) (fun a ha hf => (HO.out.yF a ha).1 hf))
  have JO : Hid (Only F w v1) := (Only.of_below KB.out (Nat.le_refl _) F).trans (ho.mono fun _ _ hf => Or.inl hf)
  have lz1 : v0.heap.size ≤ v1.heap.size := ho.size
  have HT1 := Lib.hid ha.tight
  have g1 := HT1.out.good
  have hf1 := g1.few
  obtain ⟨d2, m2, e2, hP2, hd2⟩ := sets_ex g1 [97] 99
  have HSK := Lib.hid (set_any HT1.out [97] (by decide) (by omega) hP2)
  unfold setPost at HSK
  have HFM : Hid (∀ j, (More F v0 j ∧ j < v1.heap.size) → F j ∨ (v0.heap.size ≤ j ∧ j < v1.heap.size)) := fun j hj => by
    rcases hj.1 with hf | hf
    · exact Or.inl hf
    · exact Or.inr ⟨hf, hj.2⟩
  clear ha ho HTK g1 hP2
  go_wp2_with fail
  refine HSK.out.mono ?_
  rintro r v2 ⟨rfl, ha, ho⟩
  have C2 := Lib.hid (C1.out.only ho (fun j hj hf => by rcases HFM.out _ hf with h | h; (have := HFL.out _ h; have := hj.1; omega); (have := hj.2; omega)))
  have L0 := Lib.hid (J0.out.only ho (fun hf => by rcases HFM.out _ hf with h | h; (have := HFL.out _ h; omega); omega))
  have LZ := Lib.hid (JZ.out.only ho (fun hf => by rcases HFM.out _ hf with h | h; (have := HFL.out _ h; omega); omega))
  have LS := Lib.hid (tb_only JS.out ho (fun a ha hf => by rcases HFM.out _ hf with h | h; exact (HO.out.xF a ha).1 h; (have := (HO.out.xF a ha).2; omega)) (fun a ha hf => by rcases HFM.out _ hf with h | h; exact (HO.out.yF a ha).1 h; (have := (HO.out.yF a ha).2; omega)))
  have LO : Hid (Only F w v2) := JO.out.trans (ho.mono fun j _ hf => by rcases HFM.out _ hf with h | h; exact Or.inl h; exact Or.inr (by omega))
  have lz2 : v1.heap.size ≤ v2.heap.size := ho.size
  have HT2 := Lib.hid ha
  have g2 := ha.good
  have hf2 := g2.few
  obtain ⟨d3, m3, e3, hP3, hd3⟩ := dels_ex g2 [98]
  have HDK := Lib.hid (del_any HT2.out [98] (by decide) (by omega) hP3)
  unfold putPost at HDK
  clear ha ho HSK g2 hP3
  go_wp2_with fail
  refine HDK.out.mono ?_
  rintro r v3 ⟨rfl, _, ho⟩
  have C3 := Lib.hid (C2.out.only ho (fun j hj hf => by rcases HFM.out _ hf with h | h; (have := HFL.out _ h; have := hj.1; omega); (have := hj.2; omega)))
  have PA := Lib.hid (L0.out.only ho (fun hf => by rcases HFM.out _ hf with h | h; (have := HFL.out _ h; omega); omega))
  have PZ := Lib.hid (LZ.out.only ho (fun hf => by rcases HFM.out _ hf with h | h; (have := HFL.out _ h; omega); omega))
  have MS := Lib.hid (tb_only LS.out ho (fun a ha hf => by rcases HFM.out _ hf with h | h; exact (HO.out.xF a ha).1 h; (have := (HO.out.xF a ha).2; omega)) (fun a ha hf => by rcases HFM.out _ hf with h | h; exact (HO.out.yF a ha).1 h; (have := (HO.out.yF a ha).2; omega)))
  have MO : Hid (Only F w v3) := LO.out.trans (ho.mono fun j _ hf => by rcases HFM.out _ hf with h | h; exact Or.inl h; exact Or.inr (by omega))
  have lz3 : v2.heap.size ≤ v3.heap.size := ho.size
  have LB : Hid (Both N v3 (fun j => w0.heap.size ≤ j ∧ j < v0.heap.size) g2 seed c X p Y q) := ⟨C3.out, MS.out, fun j hj => ⟨by have := hj.1; omega, by have := hj.2; omega⟩,
    fun a ha => ⟨fun hf => by have := (HO.out.xF a ha).2; have := hf.1; omega, by have := (HO.out.xF a ha).2; omega⟩, fun a ha => ⟨fun hf => by have := (HO.out.yF a ha).2; have := hf.1; omega, by have := (HO.out.yF a ha).2; omega⟩⟩
  have FF : Hid (∀ j, (w0.heap.size ≤ j ∧ j < v0.heap.size) → F j ∨ w.heap.size ≤ j) := fun j hj => Or.inr (by have := hj.1; omega)
  clear ho HDK
  obtain ⟨c0, c1, c2, _⟩ := PA.out.three
  go_wp2_with fail
  have DA := Lib.hid (show Blk v3.drew w.heap.size _ _ from PA.out)
  have DZ := Lib.hid (show Blk v3.drew (w.heap.size + 1 + 1) _ _ from PZ.out)
  have DV := Lib.hid (LB.out.below ((Below.refl v3.heap.size v3).drew) (Nat.le_refl _))
  have DO := Lib.hid MO.out.drew
  have hzd : v3.heap.size ≤ v3.drew.heap.size := Nat.le_refl _
  refine wp_region_noPanic ?_
  refine wp_region_held_drew (S := fun v => v.cell? ⟨w.heap.size, 0, none⟩ = some (.int .u64 seed) ∧ v.cell? ⟨w.heap.size, 1, none⟩ = some (.slice X c.length p) ∧ v.cell? ⟨w.heap.size, 2, none⟩ = some (.slice Y c.length q)) (by kernel_rfl) (⟨c0, c1, c2⟩) (fun hHeld => ?_)
  generalize v3.drew = u at DA DZ DV DO hzd hHeld ⊢
  refine wpAnyH_take (i := 0) (oi := ⟨some 136, _, _, _, _, _⟩) (v := ?_) rfl (by kernel_rfl) (by kernel_rfl) (by kernel_rfl) (fun _ _ _ h => h) (Or.inl ⟨by rfl, ?_⟩) (by assumption) ?_
  rotate_left
  · intro w hSw; go_simp; first | done | with_reducible rfl
  try simp only [Act.put, List.setIfInBounds_toArray, List.set_cons_zero, List.set_cons_succ]
  refine wpAnyH_take (i := 1) (oi := ⟨some 137, _, _, _, _, _⟩) (v := ?_) rfl (by kernel_rfl) (by kernel_rfl) (by kernel_rfl) (fun _ _ _ h => h) (Or.inl ⟨by rfl, ?_⟩) (by assumption) ?_
  rotate_left
  · intro w hSw; go_simp; first | done | with_reducible rfl
  try simp only [Act.put, List.setIfInBounds_toArray, List.set_cons_zero, List.set_cons_succ]
  refine wpAnyH_take (i := 2) (oi := ⟨some 6, _, _, _, _, _⟩) (v := ?_) rfl (by kernel_rfl) (by kernel_rfl) (by kernel_rfl) (fun _ _ _ h => h) (Or.inl ⟨by rfl, ?_⟩) (by assumption) ?_
  rotate_left
  · intro w hSw; go_simp; first | done | with_reducible rfl
  try simp only [Act.put, List.setIfInBounds_toArray, List.set_cons_zero, List.set_cons_succ]
  refine wpAnyH_ready (rs := [3]) (by kernel_rfl) (by simp) ?_
  refine AllReadyH.cons (o := ⟨none, _, _, _, _, _⟩) rfl (fun K hK => ?_) AllReadyH.nil
  obtain ⟨r0, r1, r2, rf0, rf1, rf2⟩ := DZ.out.three
  go_simp
  obtain ⟨v9, hv9⟩ : ∃ v9, v9 = ((u.setCell ⟨w.heap.size + 1 + 1, 0, none⟩ (.int .u64 seed)).setCell ⟨w.heap.size + 1 + 1, 1, none⟩ (.slice X c.length p)).setCell ⟨w.heap.size + 1 + 1, 2, none⟩ (.slice Y c.length q) := ⟨_, rfl⟩
  have O6 : Only (fun j => j = w.heap.size + 1 + 1) u v9 := by rw [hv9]; exact three_only _ _ _
  have G2 : Hid (Blk v9 (w.heap.size + 1 + 1) #[.int .u64 seed, .slice X c.length p, .slice Y c.length q] 31) := by
    have h1 := ((DZ.out.set 0 (.int .u64 seed)).set 1 (.slice X c.length p)).set 2 (.slice Y c.length q)
    show Blk _ _ _ _
    rw [hv9]; exact h1
  have GA := Lib.hid (DA.out.only O6 (by omega))
  have GB := Lib.hid (DV.out.only O6 (fun j e hf => by have := hf.1; omega) (fun a ha e => by have := (HO.out.xF a ha).2; omega) (fun a ha e => by have := (HO.out.yF a ha).2; omega))
  have GO := Lib.hid (DO.out.trans (O6.mono fun j _ e => Or.inr (by omega)))
  rw [← hv9]
  clear hv9 O6 r0 r1 r2 rf0 rf1 rf2
  refine hK.out _ _ (⟨GA.out.cell 0, GA.out.cell 1, GA.out.cell 2⟩) (fun hHeld => ?_)
  clear hK K
  try simp only [Act.put, List.setIfInBounds_toArray, List.set_cons_zero, List.set_cons_succ]
  refine wpAnyH_take (i := 4) (oi := ⟨some 8, _, _, _, _, _⟩) (v := ?_) rfl (by kernel_rfl) (by kernel_rfl) (by kernel_rfl) (fun _ _ _ h => h) (Or.inl ⟨by rfl, ?_⟩) (by assumption) ?_
  rotate_left
  · intro w hSw; go_simp; first | done | with_reducible rfl
  try simp only [Act.put, List.setIfInBounds_toArray, List.set_cons_zero, List.set_cons_succ]
  refine wpAnyH_done (by kernel_rfl) ?_ _
  refine NoPanic.normal ?_
  clear hHeld
  obtain ⟨r0, r1, r2, _⟩ := G2.out.three
  go_wp2_with fail
  exact bodyPost_ret (v := .tuple #[.pointer (some ⟨g2, 0, none⟩), .agg #[.int .u64 seed, .slice X c.length p, .slice Y c.length q], .bool true]) (by simp [results, Try.results12, go_sem, r0, r1, r2]) rfl ⟨g2, _, c, X, p, Y, q, rfl, HCN.out, GB.out, GO.out, FX.out, FY.out, FF.out⟩
theorem do_any {N : Nat} {w : World} {F : Nat → Prop} {g : Nat} {seed : Int} {c : List (Cell Key)} {X Y : Option Addr} {p q : Nat} (h : Both N w F g seed c X p Y q) (hN : N ≤ w.heap.size) (hn : c.length ≤ 10000) (a : Int) (k : Key) (hk : k.length ≤ 300) (n : Int) (hx : n ≤ 9223372036854775807) :
    Calls Try.prog 12 #[.pointer (some ⟨g, 0, none⟩), .agg #[.int .u64 seed, .slice X c.length p, .slice Y c.length q], .agg #[.int .i64 a, .string ⟨k.toArray⟩, .int .i64 n]] w (doPost N w F seed c X Y) := by
  by_cases q0 : a = 0
  · subst q0; exact do0 h hN hn k hk n hx
  · by_cases q1 : a = 1
    · subst q1; exact do1 h hN hn k hk n hx
    · by_cases q2 : a = 2
      · subst q2; exact do2 h hN hn k hk n hx
      · by_cases q3 : a = 3
        · exact do3 h hN hn a (Or.inl q3) k hk n hx (Or.inl q3)
        · by_cases q4 : a = 4
          · by_cases hn0 : n < 0
            · exact do3 h hN hn a (Or.inr q4) k hk n hx (Or.inr hn0)
            · subst q4; exact do4 h hN hn k hk n hx (by omega)
          · exact do5 h hN hn a k hk n hx q0 q1 q2 q3 q4
end Go.Proofs.Ythabnffmlgppdaa.Pq
