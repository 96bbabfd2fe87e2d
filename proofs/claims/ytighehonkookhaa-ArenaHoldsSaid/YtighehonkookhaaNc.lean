/- Proves what the method makeSlot of an arena leaves in memory. Conditions: as each theorem names them. -/
import Derived.Test.YtighehonkookhaaNb
import Derived.Test.YtighehonkookhaaRg
namespace Go.Proofs.Ytighehonkookhaa.Nc
open Go.RowKit Ap Mi Nm Nw Na Nb Rg

theorem elI : Elm Try.prog 28 3 (.int .i64 0) 1 where
  sl := Try.underlying28
  info := by kernel_rfl
  small := by
    have h : (Try.prog.info? 3).map (·.bytes) = some 8 := by kernel_rfl
    intro i hi; rw [hi] at h; simp at h; omega
  cells := rfl
  pos := by omega
theorem elS : Elm Try.prog 48 68 (.agg #[.int .i64 0, .bool false]) 2 where
  sl := Try.underlying48
  info := by kernel_rfl
  small := by
    have h : (Try.prog.info? 68).map (·.bytes) = some 16 := by kernel_rfl
    intro i hi; rw [hi] at h; simp at h; omega
  cells := rfl
  pos := by omega
theorem mk_inv {M G : Nat} {s : St} (h : Inv M G s) (hl : s.gens.length < M) (hG : 1 ≤ G) : Inv M G ⟨s.gens ++ [1], s.tk ++ [false], s.fr ++ [s.gens.length]⟩ := by
  have ht := h.tl; have hc := h.cnt
  refine ⟨by simp; omega, by simp; omega, ?_, fun k hk => ?_, by simp; omega, fun x hx => ?_⟩
  · refine List.nodup_append.2 ⟨h.nd, by simp, fun a ha b hb e => ?_⟩
    have := h.lt ha
    rw [List.mem_singleton.1 hb] at e; omega
  · rcases List.mem_append.1 hk with hk | hk
    · have := h.lt hk
      show (s.tk ++ [false])[k]? = some false
      rw [List.getElem?_append_left (by omega)]; exact h.fre k hk
    · rw [List.mem_singleton.1 hk]
      show (s.tk ++ [false])[s.gens.length]? = some false
      rw [List.getElem?_append_right (by omega), ht, Nat.sub_self]; rfl
  · rcases List.mem_append.1 hx with hx | hx
    · exact h.gen x hx
    · simp at hx; omega
theorem ints_snoc (l : List Nat) (n : Nat) : ints (l ++ [n]) = ints l ++ [.int .i64 (n : Int)] := by unfold ints; simp
/-- What a literal of n elements is as a source of append. -/
theorem src_lit {w : World} {t e e' : TypeId} (hk : Try.prog.underlying t = some (.slice e)) (cs : Array Value) (n sz : Nat) (hn : cs.size = n * sz) (h1 : ∀ u ∈ cs.toList, u.oneCell' = true) : Src Try.prog sz t (.slice (some ⟨w.heap.size, 0, none⟩) n n) n cs.toList (w.alloc (.cells cs e')) :=
  Src.ofSlice _ hk _ n n cs.toList (by simpa using hn) (fun j u hu => by
    rw [Nw.add_lit, Nat.zero_add, cell_of_row _ _ j cs e' (0, 0) (heap_alloc_new w _)]; simpa using hu) h1
theorem only_row {w w' : World} {A : Option Addr} {F : Nat → Prop} (h : w.grownBy w' (A.map (·.block))) (hA : ∀ a, A = some a → F a.block) : Only F w w' :=
  Only.of_grown h (fun k e => by rw [Option.map_eq_some_iff] at e; obtain ⟨a, ha, e⟩ := e; rw [← e]; exact hA a ha)
theorem blk_row {w w' : World} {A : Option Addr} {g : Nat} {cs : Array Value} {t : TypeId} (h : Blk w g cs t) (hg : w.grownBy w' (A.map (·.block))) (hA : ∀ a, A = some a → a.block ≠ g) : Blk w' g cs t :=
  h.only (Only.of_grown hg (F := fun j => j ≠ g) (fun k e => by rw [Option.map_eq_some_iff] at e; obtain ⟨a, ha, e⟩ := e; rw [← e]; exact hA a ha)) (fun hf => hf rfl)

/-- What makeSlot leaves. -/
def makePost (F : Nat → Prop) (w : World) (g m G : Nat) (s : St) : Ending → World → Prop := fun e w' =>
  e = .returned (.tuple #[]) ∧ Are (More F w) w' g m G ⟨s.gens ++ [1], s.tk ++ [false], s.fr ++ [s.gens.length]⟩ ∧ Only F w w'
set_option maxRecDepth 100000 in
set_option maxHeartbeats 1000000 in
theorem make_any {F : Nat → Prop} {w : World} {g m G : Nat} {s : St} (h : Are F w g m G s) (hl : s.gens.length < m) (hG : 1 ≤ G) :
    Calls Try.prog 33 #[.pointer (some ⟨g, 0, none⟩)] w (makePost F w g m G s) := by
  have hinv := mk_inv h.inv hl hG
  have lg := h.lt
  have hfr := h.inv.frl
  have hhi := h.hi; have hlo := h.lo
  obtain ⟨A, c, B, d, h1, h2, h3, h4, h5, h6, h7⟩ := h.has
  obtain ⟨c0, c1, c2, f0, f1, f2⟩ := h1.three
  have HI := Lib.hid hinv; have HF := Lib.hid h2; have HA := Lib.hid h3; have HB := Lib.hid h4; have HAF := Lib.hid h5; have HBF := Lib.hid h6; have HAB := Lib.hid h7; have HG := Lib.hid h1
  have HT := Lib.hid h.inv.tl
  have HHI := Lib.hid hhi; have HLO := Lib.hid hlo
  clear h h1 h2 h3 h4 h5 h6 h7 hinv
  go_enter Try.func33, Try.ntmps33
  go_wp2_with fail
  have hS : (fun v => v.cell? ⟨g, 1, none⟩ = some (.slice A s.gens.length c) ∧ v.cell? ⟨g, 2, none⟩ = some (.slice B s.fr.length d)) w.drew := ⟨c1, c2⟩
  have HG0 := Lib.hid (show Blk w.drew g _ _ from HG.out)
  have HA0 := Lib.hid (mine_drew HA.out)
  have HB0 := Lib.hid (mine_drew HB.out)
  have O0 := Lib.hid ((Only.refl F w).drew)
  have Z0 := Lib.hid (show w.drew.heap.size = w.heap.size from rfl)
  refine wp_region_noPanic ?_
  refine wp_region_G 14 (fun v => v.cell? ⟨g, 1, none⟩ = some (.slice A s.gens.length c) ∧ v.cell? ⟨g, 2, none⟩ = some (.slice B s.fr.length d)) (by kernel_rfl) ?_
  generalize w.drew = w0 at HG0 HA0 HB0 O0 Z0 hS ⊢
  refine wpAnyG_take (i := 0) (oi := ⟨some 2, _, _, _, _, _⟩) (v := ?_) rfl (by kernel_rfl) (by kernel_rfl) (by kernel_rfl) (by kernel_rfl) (by kernel_rfl) (fun _ _ _ h => h) (Or.inl ⟨by rfl, ?_⟩) (hS) ?_
  rotate_left
  · intro w hSw; go_simp; first | done | with_reducible rfl
  try simp only [Act.put, List.setIfInBounds_toArray, List.set_cons_zero, List.set_cons_succ]
  refine wpAnyG_take (i := 1) (oi := ⟨some 3, _, _, _, _, _⟩) (v := ?_) rfl (by kernel_rfl) (by kernel_rfl) (by kernel_rfl) (by kernel_rfl) (by kernel_rfl) (fun _ _ _ h => h) (Or.inl ⟨by rfl, ?_⟩) (hS) ?_
  rotate_left
  · intro w hSw; go_simp; first | done | with_reducible rfl
  try simp only [Act.put, List.setIfInBounds_toArray, List.set_cons_zero, List.set_cons_succ]
  refine wpAnyG_take (i := 2) (oi := ⟨some 4, _, _, _, _, _⟩) (v := ?_) rfl (by kernel_rfl) (by kernel_rfl) (by kernel_rfl) (by kernel_rfl) (by kernel_rfl) (fun _ _ _ h => h) (Or.inl ⟨by rfl, ?_⟩) (hS) ?_
  rotate_left
  · intro w hSw; go_simp; first | done | with_reducible rfl
  try simp only [Act.put, List.setIfInBounds_toArray, List.set_cons_zero, List.set_cons_succ]
  refine wpAnyG_take (i := 3) (oi := ⟨some 5, _, _, _, _, _⟩) (v := ?_) rfl (by kernel_rfl) (by kernel_rfl) (by kernel_rfl) (by kernel_rfl) (by kernel_rfl) (fun _ _ _ h => h) (Or.inl ⟨by rfl, ?_⟩) (hS) ?_
  rotate_left
  · intro w hSw; go_simp; first | done | with_reducible rfl
  try simp only [Act.put, List.setIfInBounds_toArray, List.set_cons_zero, List.set_cons_succ]
  refine wpAnyG_take (i := 4) (oi := ⟨some 6, _, _, _, _, _⟩) (v := ?_) rfl (by kernel_rfl) (by kernel_rfl) (by kernel_rfl) (by kernel_rfl) (by kernel_rfl) (fun _ _ _ h => h) (Or.inl ⟨by rfl, ?_⟩) (hS) ?_
  rotate_left
  · intro w hSw; go_simp; first | done | with_reducible rfl
  try simp only [Act.put, List.setIfInBounds_toArray, List.set_cons_zero, List.set_cons_succ]
  refine wpAnyG_take (i := 5) (oi := ⟨some 7, _, _, _, _, _⟩) (v := ?_) rfl (by kernel_rfl) (by kernel_rfl) (by kernel_rfl) (by kernel_rfl) (by kernel_rfl) (fun _ _ _ h => h) (Or.inl ⟨by rfl, ?_⟩) (hS) ?_
  rotate_left
  · intro w hSw; go_simp; first | done | with_reducible rfl
  try simp only [Act.put, List.setIfInBounds_toArray, List.set_cons_zero, List.set_cons_succ]
  refine wpAnyG_take (i := 6) (oi := ⟨some 8, _, _, _, _, _⟩) (v := ?_) rfl (by kernel_rfl) (by kernel_rfl) (by kernel_rfl) (by kernel_rfl) (by kernel_rfl) (fun _ _ _ h => h) (Or.inl ⟨by rfl, ?_⟩) (hS) ?_
  rotate_left
  · intro w hSw; go_simp; first | done | with_reducible rfl
  try simp only [Act.put, List.setIfInBounds_toArray, List.set_cons_zero, List.set_cons_succ]
  refine wpAnyG_take (i := 7) (oi := ⟨some 9, _, _, _, _, _⟩) (v := ?_) rfl (by kernel_rfl) (by kernel_rfl) (by kernel_rfl) (by kernel_rfl) (by kernel_rfl) (fun _ _ _ h => h) (Or.inl ⟨by rfl, ?_⟩) (hS) ?_
  rotate_left
  · intro w hSw; go_simp; first | done | with_reducible rfl
  try simp only [Act.put, List.setIfInBounds_toArray, List.set_cons_zero, List.set_cons_succ]
  refine wpAnyG_take (i := 8) (oi := ⟨some 10, _, _, _, _, _⟩) (v := ?_) rfl (by kernel_rfl) (by kernel_rfl) (by kernel_rfl) (by kernel_rfl) (by kernel_rfl) (fun _ _ _ h => h) (Or.inl ⟨by rfl, ?_⟩) (hS) ?_
  rotate_left
  · intro w hSw; go_simp; first | done | with_reducible rfl
  try simp only [Act.put, List.setIfInBounds_toArray, List.set_cons_zero, List.set_cons_succ]
  refine wpAnyG_take (i := 9) (oi := ⟨some 11, _, _, _, _, _⟩) (v := ?_) rfl (by kernel_rfl) (by kernel_rfl) (by kernel_rfl) (by kernel_rfl) (by kernel_rfl) (fun _ _ _ h => h) (Or.inl ⟨by rfl, ?_⟩) (hS) ?_
  rotate_left
  · intro w hSw; go_simp; first | done | with_reducible rfl
  try simp only [Act.put, List.setIfInBounds_toArray, List.set_cons_zero, List.set_cons_succ]
  refine wpAnyG_ready (rs := [10]) (by kernel_rfl) (by simp) ?_
  refine AllReadyG.cons (o := ⟨some 12, _, _, _, _, _⟩) rfl (fun K hK => ?_) AllReadyG.nil
  go_simp
  have HG1 := Lib.hid (HG0.out.below (bnew w0 (.cells #[.int .i64 (s.gens.length : Int)] 3)) (HG0.out.lt))
  have HB1 := Lib.hid (HB0.out.below (bnew w0 (.cells #[.int .i64 (s.gens.length : Int)] 3)) (Nat.le_refl _))
  have HA1 := Lib.hid (HA0.out.below (bnew w0 (.cells #[.int .i64 (s.gens.length : Int)] 3)) (Nat.le_refl _))
  have hS1 : (fun v => v.cell? ⟨g, 1, none⟩ = some (.slice A s.gens.length c) ∧ v.cell? ⟨g, 2, none⟩ = some (.slice B s.fr.length d)) (w0.alloc (.cells #[.int .i64 (s.gens.length : Int)] 3)) := ⟨HG1.out.cell 1, HG1.out.cell 2⟩
  refine hK.out _ _ (fun _ => hS1) ?_
  clear hK K
  try simp only [Act.put, List.setIfInBounds_toArray, List.set_cons_zero, List.set_cons_succ]
  refine wpAnyG_ready (rs := [11]) (by kernel_rfl) (by simp) ?_
  refine AllReadyG.cons (o := ⟨some 13, _, _, _, _, _⟩) rfl (fun K hK => ?_) AllReadyG.nil
  refine step_mine (by kernel_rfl) _ _ elI _ rfl rfl HB1.out _ rfl 1 _ (src_lit Try.underlying28 #[.int .i64 (s.gens.length : Int)] 1 1 rfl (by simp [Value.oneCell'])) (by omega) (by omega) (Nat.zero_le _) ?_
  intro B' d' w1 m1 g1 q1
  have HM1 := Lib.hid m1; have HQ1 := Lib.hid q1
  have HO1 := Lib.hid (O0.out.trans (((Only.of_below (bnew w0 (.cells #[.int .i64 (s.gens.length : Int)] 3)) (Nat.le_refl _) F).trans ((only_row g1 (fun a ha => (HBF.out a ha).1)).mono fun _ _ hf => Or.inl hf)).mono fun _ _ hf => Or.inl hf))
  have HG2 := Lib.hid (blk_row HG1.out g1 (fun a ha => (HBF.out a ha).2))
  have HA2 : Hid (Mine 0 2 w1 A s.gens.length c (sl s.gens s.tk)) := HA1.out.only (Only.of_grown g1 (F := fun j => ∃ b, B = some b ∧ b.block = j) (fun k e => by rw [Option.map_eq_some_iff] at e; exact e)) (fun a ha hf => by obtain ⟨b, hb, e⟩ := hf; exact HAB.out a b ha hb e.symm)
  have hS2 : (fun v => v.cell? ⟨g, 1, none⟩ = some (.slice A s.gens.length c) ∧ v.cell? ⟨g, 2, none⟩ = some (.slice B s.fr.length d)) w1 := ⟨HG2.out.cell 1, HG2.out.cell 2⟩
  have HF2 : Hid (∀ b, B' = some b → More F w b.block ∧ b.block ≠ g ∧ ∀ a, A = some a → a.block ≠ b.block) := fun b hb => by
    rcases HQ1.out with h | h
    · rw [h] at hb; exact ⟨Or.inl (HBF.out b hb).1, (HBF.out b hb).2, fun a ha => HAB.out a b ha hb⟩
    · have h' := h b hb; have z0 := Z0.out; simp at h'; exact ⟨Or.inr (by omega), by omega, fun a ha => by have := (HA.out.base ha).2.1; omega⟩
  have lz1 : w0.heap.size + 1 ≤ w1.heap.size := by have := g1.size; simpa using this
  have lg1 : g < w1.heap.size := by have := Z0.out; omega
  have lz2 : w.heap.size + 1 ≤ w1.heap.size := by have := Z0.out; omega
  have e2 : w1.cell? ⟨g, 2, none⟩ = some (.slice B s.fr.length d) := HG2.out.cell 2
  have ef2 : w1.frozen? ⟨g, 2, none⟩ = false := HG2.out.frozen 2
  clear m1 g1 q1
  refine hK.out _ _ (fun _ => hS2) ?_
  clear hK K
  try simp only [Act.put, List.setIfInBounds_toArray, List.set_cons_zero, List.set_cons_succ]
  refine wpAnyG_take (i := 12) (oi := ⟨some 14, _, _, _, _, _⟩) (v := ?_) rfl (by kernel_rfl) (by kernel_rfl) (by kernel_rfl) (by kernel_rfl) (by kernel_rfl) (fun _ _ _ h => h) (Or.inl ⟨by rfl, ?_⟩) (hS2) ?_
  rotate_left
  · intro w hSw; go_simp; first | done | with_reducible rfl
  try simp only [Act.put, List.setIfInBounds_toArray, List.set_cons_zero, List.set_cons_succ]
  refine wpAnyG_take (i := 13) (oi := ⟨some 15, _, _, _, _, _⟩) (v := ?_) rfl (by kernel_rfl) (by kernel_rfl) (by kernel_rfl) (by kernel_rfl) (by kernel_rfl) (fun _ _ _ h => h) (Or.inl ⟨by rfl, ?_⟩) (hS2) ?_
  rotate_left
  · intro w hSw; go_simp; first | done | with_reducible rfl
  try simp only [Act.put, List.setIfInBounds_toArray, List.set_cons_zero, List.set_cons_succ]
  refine wpAnyG_ready (rs := [14]) (by kernel_rfl) (by simp) ?_
  refine AllReadyG.cons (o := ⟨none, _, _, _, _, _⟩) rfl (fun K hK => ?_) AllReadyG.nil
  go_simp
  refine hK.out _ _ (fun h => absurd h (by omega)) ?_
  clear hK K
  try simp only [Act.put, List.setIfInBounds_toArray, List.set_cons_zero, List.set_cons_succ]
  refine wpAnyG_done (by kernel_rfl) ?_ _
  refine NoPanic.normal ?_
  have HG3 : Hid (Blk (w1.setCell ⟨g, 2, none⟩ (.slice B' (s.fr.length + 1) d')) g #[.int .i64 (m : Int), .slice A s.gens.length c, .slice B' (s.fr.length + 1) d'] 50) := HG2.out.set 2 _
  have HA3 : Hid (Mine 0 2 (w1.setCell ⟨g, 2, none⟩ (.slice B' (s.fr.length + 1) d')) A s.gens.length c (sl s.gens s.tk)) := HA2.out.only (only_own (F := fun j => j = g) rfl _) (fun a ha e => (HAF.out a ha).2 e)
  have HM3 : Hid (Mine 0 1 (w1.setCell ⟨g, 2, none⟩ (.slice B' (s.fr.length + 1) d')) B' (s.fr.length + 1) d' (ints (s.fr ++ [s.gens.length]))) := by
    have := HM1.out.only (only_own (F := fun j => j = g) (i := 2) rfl (.slice B' (s.fr.length + 1) d')) (fun b hb e => (HF2.out b hb).2.1 e)
    rw [ints_snoc]; exact this
  have HO3 : Hid (Only F w (w1.setCell ⟨g, 2, none⟩ (.slice B' (s.fr.length + 1) d'))) := HO1.out.put (ad := ⟨g, 2, none⟩) HF.out _
  obtain ⟨v0, hv0⟩ : ∃ v0, v0 = w1.setCell ⟨g, 2, none⟩ (.slice B' (s.fr.length + 1) d') := ⟨_, rfl⟩
  have hz0 : w1.heap.size ≤ v0.heap.size := by rw [hv0]; simp
  have lg0 : g < v0.heap.size := by omega
  clear hS hS1 hS2 c0 c1 c2 f0 f1 f2 e2 ef2
  rw [← hv0] at HG3 HA3 HM3 HO3 ⊢
  clear hv0 HM1 HG2 HA2 HO1 HG1 HB1 HA1
  obtain ⟨c0, c1, c2, f0, f1, f2⟩ := HG3.out.three
  go_wp2_with (at_builtin; (refine wpList_mine rfl _ _ elS _ rfl rfl (HA3.out.below (bnew v0 (.cells #[.int .i64 1, .bool false] 68)) (Nat.le_refl _)) _ rfl 1 _ (src_lit Try.underlying48 #[.int .i64 1, .bool false] 1 2 rfl (by simp [Value.oneCell'])) (by omega) (by omega) (Nat.zero_le _) ?_))
  intro A' c' w2 m2 g2 q2
  have HG4 := Lib.hid (blk_row (HG3.out.below (bnew v0 (.cells #[.int .i64 1, .bool false] 68)) lg0) g2 (fun a ha => (HAF.out a ha).2))
  have HO4 := Lib.hid (HO3.out.trans (((Only.of_below (bnew v0 (.cells #[.int .i64 1, .bool false] 68)) (Nat.le_refl _) F).trans ((only_row g2 (fun a ha => (HAF.out a ha).1)).mono fun _ _ hf => Or.inl hf)).mono fun _ _ hf => Or.inl hf))
  have HM4 : Hid (Mine 0 1 w2 B' (s.fr.length + 1) d' (ints (s.fr ++ [s.gens.length]))) := (HM3.out.below (bnew v0 (.cells #[.int .i64 1, .bool false] 68)) (Nat.le_refl _)).only (Only.of_grown g2 (F := fun j => ∃ b, A = some b ∧ b.block = j) (fun k e => by rw [Option.map_eq_some_iff] at e; exact e)) (fun b hb hf => by obtain ⟨a, ha, e⟩ := hf; exact (HF2.out b hb).2.2 a ha e)
  have HF4 : Hid (∀ a, A' = some a → More F w a.block ∧ a.block ≠ g ∧ ∀ b, B' = some b → a.block ≠ b.block) := fun a ha => by
    rcases q2 with h | h
    · rw [h] at ha; exact ⟨Or.inl (HAF.out a ha).1, (HAF.out a ha).2, fun b hb => (HF2.out b hb).2.2 a ha⟩
    · have h' := h a ha; have hz : v0.heap.size + 1 ≤ a.block := by simpa using h'
      exact ⟨Or.inr (by omega), by omega, fun b hb => by have := (HM3.out.base hb).2.1; omega⟩
  have HM5 := Lib.hid m2
  have lg2 : g < w2.heap.size := HG4.out.lt
  clear c0 c1 c2 f0 f1 f2 m2 g2 q2
  obtain ⟨c0, c1, c2, f0, f1, f2⟩ := HG4.out.three
  go_wp2_with fail
  go_end0
  refine ⟨rfl, ⟨⟨A', c', B', d', ?_, Or.inl HF.out, ?_, ?_, fun a ha => ⟨(HF4.out a ha).1, (HF4.out a ha).2.1⟩, fun b hb => ⟨(HF2.out b hb).1, (HF2.out b hb).2.1⟩, fun a b ha hb => (HF4.out a ha).2.2 b hb⟩, HI.out, by omega, by omega⟩, HO4.out.put (ad := ⟨g, 1, none⟩) HF.out _⟩
  · rw [List.length_append, List.length_append]; exact HG4.out.set 1 _
  · rw [sl_snoc _ _ _ _ HT.out, List.length_append]
    exact HM5.out.only (only_own (F := fun j => j = g) rfl _) (fun a ha e => (HF4.out a ha).2.1 e)
  · rw [List.length_append]
    exact HM4.out.only (only_own (F := fun j => j = g) rfl _) (fun b hb e => (HF2.out b hb).2.1 e)
end Go.Proofs.Ytighehonkookhaa.Nc
