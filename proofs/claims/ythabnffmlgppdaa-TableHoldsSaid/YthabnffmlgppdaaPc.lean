/- Proves what New and the methods Set and add of a table do. Conditions: as each theorem names them. -/
import Derived.Test.YthabnffmlgppdaaPb
import Derived.Test.YthabnffmlgppdaaTg
import Derived.Laws.MakeOwn
namespace Go.Proofs.Ythabnffmlgppdaa.Pc
open Go.RowKit Ap Mi Nw Rg Hm Tm Tn Ta Pm Pa Pb
open Tf (okK okK_spec Gets)
open Tg (Sets)
open Td (len_none)

theorem elC : Elm Try.prog 49 79 (.agg #[.string ⟨#[]⟩, .int .i64 0]) 2 where
  sl := Try.underlying49
  info := by kernel_rfl
  small := by
    have h : (Try.prog.info? 79).map (·.bytes) = some 24 := by kernel_rfl
    intro i hi; rw [hi] at h; simp at h; omega
  cells := rfl
  pos := by omega
/-- A row of free cells. -/
def zC (n : Nat) : Array Value := madeCells #[.string ⟨#[]⟩, .int .i64 0] (n * 2)
theorem zC_list (n : Nat) : (zC n).toList = pc (List.replicate n none) := by
  unfold zC madeCells
  refine List.ext_getElem (by rw [pc_len]; simp) (fun i h1 h2 => ?_)
  have hi : i / 2 < n := by simp at h1; omega
  obtain ⟨e0, e1⟩ := pc_get (List.replicate n none) (i / 2) (by simpa using hi)
  have hg := List.getElem?_eq_getElem h2
  rcases Nat.mod_two_eq_zero_or_one i with hm | hm
  · rw [show i / 2 * 2 = i by omega] at e0
    rw [hg] at e0
    rw [Option.some.inj e0]
    simp [hm, ck]
  · rw [show i / 2 * 2 + 1 = i by omega] at e1
    rw [hg] at e1
    rw [Option.some.inj e1]
    simp [hm, cn]
theorem make_cells (n : Nat) (w : World) (h : n ≤ 100000000) : (Instr.makeSlice 49 (.int .i64 (n : Int)) (.int .i64 (n : Int))).run Try.prog w = .ok (.slice (some ⟨w.heap.size, 0, none⟩) n n) (w.alloc (.cells (zC n) 79)) := by
  have hi := elC.info
  rw [Option.map_eq_some_iff] at hi
  obtain ⟨i, hi1, hi2⟩ := hi
  simp only [Prod.mk.injEq] at hi2
  have hb := elC.small i hi1
  have hmul : i.bytes * n ≤ 1024 * 100000000 := Nat.mul_le_mul hb h
  have hmul' : (i.bytes : Int) * (n : Int) ≤ 281474976710656 := by
    have h0 : ((i.bytes * n : Nat) : Int) ≤ 281474976710656 := by omega
    rwa [Int.natCast_mul] at h0
  have hr := run_make (P := Try.prog) w 49 79 i (.agg #[.string ⟨#[]⟩, .int .i64 0]) elC.sl hi1 hi2.1 .i64 .i64 (n : Int) (n : Int) (by omega) (Int.le_refl _) hmul' (by omega)
  rw [Int.toNat_natCast, hi2.2] at hr
  exact hr
theorem laid_cells (n : Nat) (w : World) (h : n ≤ 100000000) : Mine w.heap.size 2 (w.alloc (.cells (zC n) 79)) (some ⟨w.heap.size, 0, none⟩) n n (pc (List.replicate n none)) :=
  mine_laid w (zC n) _ _ n (zC_list n) (by rw [pc_len]; simp) (by omega)
theorem kys_none (n : Nat) : Kys (List.replicate n none) := fun k x h => by have := List.eq_of_mem_replicate h; cases this
theorem kys_set {c : List (Cell Key)} (h : Kys c) (q : Nat) {o : Cell Key} (ho : ∀ k x, o = some (k, x) → 1 ≤ k.length ∧ k.length ≤ 250 ∧ x ≤ 9223372036854775807) : Kys (c.set q o) := fun k x hm => by
  rcases List.mem_or_eq_of_mem_set hm with h1 | h1
  · exact h k x h1
  · exact ho k x h1.symm
theorem pw8 : Pw 8 := ⟨3, by omega, rfl⟩
/-- What New leaves. -/
def newPost (w : World) (seed : Int) : Ending → World → Prop := fun e w' =>
  ∃ g, e = .returned (.pointer (some ⟨g, 0, none⟩)) ∧ Pt (fun j => w.heap.size ≤ j) w' g seed (List.replicate 8 none) ∧ Below w.heap.size w w'
set_option maxRecDepth 100000 in
set_option maxHeartbeats 1000000 in
theorem new_any (seed : Int) (w : World) (hs : U64 seed) : Calls Try.prog 10 #[.int .u64 seed] w (newPost w seed) := by
  have MK : ∀ W : World, (Instr.makeSlice 49 (.int .i64 8) (.int .i64 8)).run Try.prog W = .ok (.slice (some ⟨W.heap.size, 0, none⟩) 8 8) (W.alloc (.cells (zC 8) 79)) := fun W => make_cells 8 W (by omega)
  have HS := Lib.hid hs
  clear hs
  go_enter Try.func10, Try.ntmps10
  go_wp2_with fail
  go_ret
  have hA := Blk.new (w.alloc (.cells (zC 8) 79)) #[.int .u64 seed, .slice (some ⟨w.heap.size, 0, none⟩) 8 8, .int .i64 0] 51
  rw [show (w.alloc (.cells (zC 8) 79)).heap.size = w.heap.size + 1 by simp] at hA
  have hM := (laid_cells 8 w (by omega)).below (bnew (w.alloc (.cells (zC 8) 79)) (.cells #[.int .u64 seed, .slice (some ⟨w.heap.size, 0, none⟩) 8 8, .int .i64 0] 51)) (Nat.le_refl _)
  refine ⟨_, rfl, ⟨⟨⟨some ⟨w.heap.size, 0, none⟩, 8, ?_, by omega, ?_, fun a ha => ?_⟩, kys_none 8, HS.out, ?_, by rw [len_none]; omega⟩, To.good_start (hom_lt seed)⟩, ?_⟩
  · rw [len_none, cnt_none]; exact hA
  · rw [len_none]; exact hM.mono (Nat.zero_le _)
  · injection ha with ha; subst ha; exact ⟨Nat.le_refl _, by show w.heap.size ≠ w.heap.size + 1; omega⟩
  · rw [len_none]; exact pw8
  · exact (bnew w _).alloc (by simp) _
section
variable {F F' : Nat → Prop} {w w' : World} {g : Nat} {seed m : Int} {c : List (Cell Key)}
/-- A cell is written. -/
theorem Pl.put (h : Pl F w g seed m c) {gA oA cap : Nat} (hB : Blk w g #[.int .u64 seed, .slice (some ⟨gA, oA, none⟩) c.length cap, .int .i64 m] 51) (hF : F gA) (hne : gA ≠ g) (hM : Mine 0 2 w (some ⟨gA, oA, none⟩) c.length cap (pc c))
    {q : Nat} (hq : q < c.length) {o : Cell Key} (ho : ∀ k x, o = some (k, x) → 1 ≤ k.length ∧ k.length ≤ 250 ∧ x ≤ 9223372036854775807) :
    Pl F ((w.setCell ⟨gA, oA + q * 2, none⟩ (.string ⟨(ck o).toArray⟩)).setCell ⟨gA, oA + q * 2 + 1, none⟩ (.int .i64 (cn o : Int))) g seed m (c.set q o) ∧
      Only F w ((w.setCell ⟨gA, oA + q * 2, none⟩ (.string ⟨(ck o).toArray⟩)).setCell ⟨gA, oA + q * 2 + 1, none⟩ (.int .i64 (cn o : Int))) := by
  have hO : Only (fun j => j = gA) w ((w.setCell ⟨gA, oA + q * 2, none⟩ (.string ⟨(ck o).toArray⟩)).setCell ⟨gA, oA + q * 2 + 1, none⟩ (.int .i64 (cn o : Int))) := ((Only.refl (fun j => j = gA) w).put (ad := ⟨gA, oA + q * 2, none⟩) rfl _).put (ad := ⟨gA, oA + q * 2 + 1, none⟩) rfl _
  refine ⟨⟨⟨some ⟨gA, oA, none⟩, cap, ?_, h.inF, ?_, fun a ha => ?_⟩, kys_set h.kys q ho, h.sd, by rw [List.length_set]; exact h.pw, by rw [List.length_set]; exact h.lim⟩, hO.mono fun j _ e => by rw [e]; exact hF⟩
  · rw [List.length_set]; exact hB.only hO (fun e => hne e.symm)
  · have h1 := (hM.store (q * 2) (by rw [pc_len]; omega) (.string ⟨(ck o).toArray⟩)).store (q * 2 + 1) (by rw [List.length_set, pc_len]; omega) (.int .i64 (cn o : Int))
    rw [pc_set, ← Nat.add_assoc] at h1
    rw [List.length_set]; exact h1
  · injection ha with ha; subst ha; exact ⟨hF, hne⟩
/-- Its number is written. -/
theorem Pl.putN (h : Pl F w g seed m c) {gA oA cap : Nat} (hB : Blk w g #[.int .u64 seed, .slice (some ⟨gA, oA, none⟩) c.length cap, .int .i64 m] 51) (hF : F gA) (hne : gA ≠ g) (hM : Mine 0 2 w (some ⟨gA, oA, none⟩) c.length cap (pc c))
    {q : Nat} {k : Key} {y : Nat} (hq : c[q]? = some (some (k, y))) {x : Nat} (hx : x ≤ 9223372036854775807) :
    Pl F (w.setCell ⟨gA, oA + q * 2 + 1, none⟩ (.int .i64 (x : Int))) g seed m (c.set q (some (k, x))) ∧ Only F w (w.setCell ⟨gA, oA + q * 2 + 1, none⟩ (.int .i64 (x : Int))) := by
  have hO : Only (fun j => j = gA) w (w.setCell ⟨gA, oA + q * 2 + 1, none⟩ (.int .i64 (x : Int))) := (Only.refl (fun j => j = gA) w).put (ad := ⟨gA, oA + q * 2 + 1, none⟩) rfl _
  have hql := lt_of_some hq
  have hk := h.kys k y (List.mem_of_getElem? hq)
  refine ⟨⟨⟨some ⟨gA, oA, none⟩, cap, ?_, h.inF, ?_, fun a ha => ?_⟩, kys_set h.kys q (fun k' x' e => by cases e; exact ⟨hk.1, hk.2.1, hx⟩), h.sd, by rw [List.length_set]; exact h.pw, by rw [List.length_set]; exact h.lim⟩, hO.mono fun j _ e => by rw [e]; exact hF⟩
  · rw [List.length_set]; exact hB.only hO (fun e => hne e.symm)
  · have h1 := hM.store (q * 2 + 1) (by rw [pc_len]; omega) (.int .i64 (x : Int))
    have e : (pc c).set (q * 2) (.string ⟨(ck (some (k, x))).toArray⟩) = pc c := by
      obtain ⟨hl, e⟩ := List.getElem?_eq_some_iff.1 hq
      have := (pc_get c q hl).1
      rw [e] at this
      obtain ⟨h2, h3⟩ := List.getElem?_eq_some_iff.1 this
      show (pc c).set (q * 2) (.string ⟨k.toArray⟩) = pc c
      rw [← show (pc c)[q * 2] = .string ⟨k.toArray⟩ from h3, List.set_getElem_self]
    have h2 := pc_set c q (some (k, x))
    rw [e] at h2
    rw [show (pc c).set (q * 2 + 1) (.int .i64 (x : Int)) = pc (c.set q (some (k, x))) from h2, ← Nat.add_assoc] at h1
    rw [List.length_set]; exact h1
  · injection ha with ha; subst ha; exact ⟨hF, hne⟩
/-- What Set leaves. -/
def setPost (F : Nat → Prop) (w : World) (g : Nat) (seed : Int) (c' : List (Cell Key)) (m e : Int) : Ending → World → Prop := fun q w' =>
  q = .returned (.tuple #[.int .i64 m, .int .i64 e]) ∧ Pt F w' g seed c' ∧ Only F w w'
set_option maxRecDepth 100000 in
set_option maxHeartbeats 1000000 in
theorem set_any (h : Pt F w g seed c) (k : Key) (hk : k.length ≤ 1000000) {n m e : Int} {c' : List (Cell Key)} (hn : n ≤ 9223372036854775807) (hS : Sets c k n c' m e) :
    Calls Try.prog 20 #[.pointer (some ⟨g, 0, none⟩), .string ⟨k.toArray⟩, .int .i64 n] w (setPost F w g seed c' m e) := by
  unfold setPost
  have HA := Lib.hid (at_any h k hk n)
  have HG := Lib.hid hS
  have HH := Lib.hid h
  clear h hS
  go_enter Try.func20, Try.ntmps20
  go_wp2_with fail
  refine HA.out.mono ?_
  rintro q w1 ⟨r, f, rfl, hat, hb⟩
  have H1 := Lib.hid (HH.out.below hb (Nat.le_refl _))
  have HB := Lib.hid hb
  clear hb HA
  rcases hat with ⟨hv, rfl, rfl⟩ | ⟨hv, hn0, ⟨i, x, hi, rfl⟩, rfl⟩ | ⟨hv, _, hno, rfl⟩
  · have HE : Hid (m = 0 ∧ e = 2 ∧ c' = c) := by
      rcases HG.out with ⟨_, h1, h2, h3⟩ | ⟨h1, h2, _⟩ | ⟨h1, ⟨_, x, _, _, h2, _⟩, _⟩
      · exact ⟨h2, h3, h1⟩
      · rcases hv with h3 | h3
        · rw [h1] at h3; cases h3
        · omega
      · rcases hv with h3 | h3
        · rw [h1] at h3; cases h3
        · omega
    clear hv
    go_wp2_with fail
    go_ret2
    obtain ⟨h1, h2, h3⟩ := HE.out
    subst h1; subst h2; subst h3
    exact ⟨rfl, H1.out, Only.of_below HB.out (Nat.le_refl _) _⟩
  · have HE : Hid (m = (x : Int) ∧ e = 0 ∧ c' = c.set i (some (k, n.toNat))) := by
      rcases HG.out with ⟨h1, _⟩ | ⟨_, _, h1, _⟩ | ⟨_, ⟨i', x', y', h1, h2, h3, h4⟩, h5⟩
      · rcases h1 with h3 | h3
        · rw [hv] at h3; cases h3
        · omega
      · exact absurd (List.mem_of_getElem? hi) (h1 x)
      · have e1 := To.num_one HH.out.good (List.mem_of_getElem? hi) (List.mem_of_getElem? h1)
        have e2 := HH.out.good.tab.one i i' k x y' hi h1
        subst e1; subst e2
        exact ⟨h3, h5, by rw [h4, h2, Int.toNat_natCast]⟩
    obtain ⟨y, rfl⟩ : ∃ y : Nat, n = (y : Int) := ⟨n.toNat, by omega⟩
    rw [Int.toNat_natCast] at HE
    obtain ⟨gA, oA, cap, hB, lA, hF, hne, e0, e1, f0, f1, hM⟩ := H1.out.pl.slot hi
    obtain ⟨c0, c1, c2, _⟩ := hB.three
    have lg : g < w1.heap.size := hB.lt
    have i1 : (i : Int) < (c.length : Int) := by have := lt_of_some hi; omega
    have hlim := H1.out.pl.lim
    have a1 : w1.cell? ⟨gA, oA + i * 2 + 1, none⟩ = some (.int .i64 (x : Int)) := e1
    have HP := Lib.hid (Pl.putN H1.out.pl hB hF hne hM hi (x := y) (by omega))
    have HI := Lib.hid (To.set_good H1.out.good hi y)
    clear hB e0 e1 hi hv hM hF HG
    go_wp2_with fail
    go_ret2
    obtain ⟨h1, h2, h3⟩ := HE.out
    subst h1; subst h2; subst h3
    exact ⟨rfl, ⟨by rw [HI.out.2.2.1]; exact HP.out.1, HI.out.1⟩, (Only.of_below HB.out (Nat.le_refl _) F).trans (HP.out.2.mono fun j _ hf => Or.inl hf)⟩
  · have HE : Hid (m = 0 ∧ e = 9 ∧ c' = c) := by
      rcases HG.out with ⟨h1, _⟩ | ⟨_, _, _, h1, h2, h3⟩ | ⟨_, ⟨i', x', y', h1, _⟩, _⟩
      · rcases h1 with h3 | h3
        · rw [hv] at h3; cases h3
        · omega
      · exact ⟨h2, h3, h1⟩
      · exact absurd (List.mem_of_getElem? h1) (hno y')
    clear hv hno
    go_wp2_with fail
    go_ret2
    obtain ⟨h1, h2, h3⟩ := HE.out
    subst h1; subst h2; subst h3
    exact ⟨rfl, H1.out, Only.of_below HB.out (Nat.le_refl _) _⟩
/-- What add leaves. -/
def addPost (F : Nat → Prop) (w : World) (g : Nat) (seed m : Int) (c' : List (Cell Key)) : Ending → World → Prop := fun q w' =>
  q = .returned (.tuple #[]) ∧ Pl F w' g seed m c' ∧ Only F w w'
set_option maxRecDepth 100000 in
set_option maxHeartbeats 1000000 in
theorem add_any (h : Pl F w g seed m c) (hf : none ∈ c) (k : Key) (hk : 1 ≤ k.length) (hk2 : k.length ≤ 250) (hno : ∀ y, some (k, y) ∉ c) (x : Nat) (hx : x ≤ 9223372036854775807) :
    Calls Try.prog 38 #[.pointer (some ⟨g, 0, none⟩), .agg #[.string ⟨k.toArray⟩, .int .i64 (x : Int)]] w (addPost F w g seed m (putC (hom seed c.length) c k x)) := by
  unfold addPost putC
  obtain ⟨w0, hw0⟩ : ∃ w0, w0 = w.alloc (.cells #[.string ⟨k.toArray⟩, .int .i64 (x : Int)] 79) := ⟨_, rfl⟩
  obtain ⟨b2, hb2⟩ : ∃ b2, b2 = w.heap.size := ⟨_, rfl⟩
  have b0 : Below w.heap.size w w0 := by rw [hw0]; exact bnew _ _
  have P2 : Hid (Blk w0 b2 #[.string ⟨k.toArray⟩, .int .i64 (x : Int)] 79) := by show Blk _ _ _ _; rw [hw0, hb2]; exact Blk.new _ _ _
  have h0 := h.below b0 (Nat.le_refl _)
  have HF := Lib.hid (find_gone h0 hf k hk (by omega) hno)
  obtain ⟨g1, _, _⟩ := gap_spec (hom_lt seed _ h.pw.pos k) hf
  obtain ⟨q, hq⟩ : ∃ q, q = gap c (hom seed c.length k) := ⟨_, rfl⟩
  rw [← hq] at HF g1 ⊢
  have H0 := Lib.hid h0
  have HB := Lib.hid b0
  have l2 : b2 < w0.heap.size := P2.out.lt
  have lg : g < b2 := by rw [hb2]; exact h.lt
  have hlim := h.lim
  obtain ⟨y0, y1, _, _⟩ := P2.out.two
  clear h h0 b0 hq hf hno
  go_enter Try.func38, Try.ntmps38
  go_wp2_with fail
  rw [← hw0, ← hb2]
  have HB2 := Lib.hid hb2
  rw [← hb2] at HB
  clear hw0 hb2
  refine HF.out.mono ?_
  rintro e w1 ⟨rfl, hb⟩
  have H1 := Lib.hid (H0.out.below hb (Nat.le_refl _))
  have P3 := Lib.hid (P2.out.below hb l2)
  have HB1 := Lib.hid (HB.out.trans (hb.mono (by omega)))
  clear hb y0 y1 HF H0
  obtain ⟨y0, y1, _, _⟩ := P3.out.two
  obtain ⟨o, ho, _⟩ := get_of g1
  obtain ⟨gA, oA, cap, hB, lA, hF, hne, e0, e1, f0, f1, hM⟩ := H1.out.slot ho
  obtain ⟨c0, c1, c2, _⟩ := hB.three
  have l3 : b2 < w1.heap.size := P3.out.lt
  have i1 : (q : Int) < (c.length : Int) := by omega
  have HP := Lib.hid (Pl.put H1.out hB hF hne hM g1 (o := some (k, x)) (fun k' x' e => by cases e; exact ⟨hk, hk2, hx⟩))
  clear hB hM hF ho
  go_wp2_with fail
  go_region
  go_wp2_with fail
  go_end0
  refine ⟨rfl, HP.out.1.only ((Only.refl (fun _ => False) _).drew) (fun _ _ hf => hf), ?_⟩
  have hb1 := HB1.out
  rw [HB2.out] at hb1
  exact ((Only.of_below hb1 (Nat.le_refl _) F).trans (HP.out.2.mono fun j _ hf => Or.inl hf)).drew
end
end Go.Proofs.Ythabnffmlgppdaa.Pc
