/- Proves what slices.Insert of one number leaves: the row, or a new one, with the number at its place. Conditions: as each theorem names them. -/
import Derived.Test.YtmhbfplpodikiaaIne
import Derived.Test.YtmhbfplpodikiaaShelfI
namespace Go.Proofs.Ytmhbfplpodikiaa.Ink
open Go.RowKit Ap Mi Nw Ine

/-- A list with an element put in. -/
def ins (xs : List Value) (i : Nat) (x : Value) : List Value := xs.take i ++ x :: xs.drop i
theorem ins_len {xs : List Value} {i : Nat} (h : i ≤ xs.length) (x : Value) : (ins xs i x).length = xs.length + 1 := by unfold ins; simp; omega
theorem ins_lt {xs : List Value} {i : Nat} (h : i ≤ xs.length) (x : Value) {j : Nat} (hj : j < i) : (ins xs i x)[j]? = xs[j]? := by
  unfold ins
  rw [List.getElem?_append_left (by simp; omega), List.getElem?_take, if_pos hj]
theorem ins_eq {xs : List Value} {i : Nat} (h : i ≤ xs.length) (x : Value) : (ins xs i x)[i]? = some x := by
  unfold ins
  rw [List.getElem?_append_right (by rw [List.length_take]; exact Nat.min_le_left ..)]
  simp [Nat.min_eq_left h]
theorem ins_gt {xs : List Value} {i : Nat} (h : i ≤ xs.length) (x : Value) {j : Nat} (hj : i ≤ j) : (ins xs i x)[j + 1]? = xs[j]? := by
  unfold ins
  rw [List.getElem?_append_right (by simp; omega), List.length_take, Nat.min_eq_left h, show j + 1 - i = (j - i) + 1 by omega, List.getElem?_cons_succ, List.getElem?_drop, show i + (j - i) = j by omega]
/-- What Insert leaves. -/
def insPost (B : Nat) (w : World) (R : Option Addr) (n : Nat) (ys : List Value) : Ending → World → Prop := fun e w' =>
  ∃ R' c', e = .returned (.slice R' (n + 1) c') ∧ Mine B 1 w' R' (n + 1) c' ys ∧ (R' = R ∨ ∀ a, R' = some a → w.heap.size ≤ a.block) ∧ Only (fun j => ∃ a, R = some a ∧ a.block = j) w w'
theorem only_cells {F : Nat → Prop} {a w : World} (h : Only F a w) {b : Nat} (hb : F b ∨ a.heap.size ≤ b) (o : Nat) (vs : List Value) : Only F a (w.setCells b o vs) := by
  obtain ⟨h1, h2, h3, h4⟩ := setCells_rest vs w b o
  exact ⟨h1.trans h.os, h2.trans h.tape, h3.trans h.output, by rw [h4]; exact h.size, fun j hj hn => (heap_setCells vs w b o j (fun e => by
    subst e; rcases hb with hb | hb
    · exact hn hb
    · omega)).trans (h.block j hj hn)⟩
/-- A row in its old place. -/
theorem row_in {B : Nat} {w w' : World} {b off n c n' : Nat} {xs ys : List Value} (h : Mine B 1 w (some ⟨b, off, none⟩) n c xs) (hs : w.heap.size ≤ w'.heap.size) (hc : ∀ j, j < c → (w'.cell? ⟨b, off + j, none⟩).isSome = true ∧ w'.frozen? ⟨b, off + j, none⟩ = false) (hn : n' ≤ c) (hl : ys.length = n') (hy : ∀ (j : Nat) v, ys[j]? = some v → w'.cell? ⟨b, off + j, none⟩ = some v) : Mine B 1 w' (some ⟨b, off, none⟩) n' c ys := by
  obtain ⟨b', off', e, hb1, hb2, _, _⟩ := h.lies _ rfl
  injection e with e1 e2
  subst e1; subst e2
  refine ⟨hn, h.max, by omega, (fun e => by cases e), fun a ha => ?_⟩
  injection ha with ha
  exact ⟨b, off, ha.symm, hb1, by omega, fun j hj => hc j (by omega), fun j hj => hy j _ (List.getElem?_eq_getElem hj)⟩
/-- A new row. -/
theorem row_new {B b : Nat} {w' : World} {cs : Array Value} {e : TypeId} {n' c : Nat} {ys : List Value} (hb : B ≤ b) (hr : w'.heap[b]? = some (.cells cs e (0, 0))) (hs : cs.size = c) (hn : n' ≤ c) (hm : c ≤ maxLen) (hl : ys.length = n') (hy : ∀ (j : Nat) v, ys[j]? = some v → cs[j]? = some v) : Mine B 1 w' (some ⟨b, 0, none⟩) n' c ys := by
  refine ⟨hn, hm, by omega, (fun e => by cases e), fun a ha => ?_⟩
  injection ha with ha
  refine ⟨b, 0, ha.symm, hb, (Array.getElem?_eq_some_iff.1 hr).1, fun j hj => ⟨?_, frozen_of_row w' b _ _ _ hr⟩, fun j hj => ?_⟩
  · rw [cell_of_row w' b _ _ _ (0, 0) hr, Nat.zero_add, Array.getElem?_eq_getElem (by omega)]; rfl
  · rw [cell_of_row w' b _ _ _ (0, 0) hr, Nat.zero_add]
    exact hy j _ (List.getElem?_eq_getElem hj)
/-- A row that begins a block. -/
theorem row_at {B b : Nat} {w' : World} {n' c : Nat} {ys : List Value} (hb : B ≤ b) (hlt : b < w'.heap.size) (hc : ∀ j, j < c → (w'.cell? ⟨b, j, none⟩).isSome = true ∧ w'.frozen? ⟨b, j, none⟩ = false) (hn : n' ≤ c) (hm : c ≤ maxLen) (hl : ys.length = n') (hy : ∀ (j : Nat) v, ys[j]? = some v → w'.cell? ⟨b, j, none⟩ = some v) : Mine B 1 w' (some ⟨b, 0, none⟩) n' c ys := by
  refine ⟨hn, hm, by omega, (fun e => by cases e), fun a ha => ?_⟩
  injection ha with ha
  refine ⟨b, 0, ha.symm, hb, hlt, fun j hj => ?_, fun j hj => ?_⟩
  · rw [Nat.zero_add]; exact hc j (by omega)
  · rw [Nat.zero_add]; exact hy j _ (List.getElem?_eq_getElem hj)
theorem new_end {w : World} {xs : List Value} {x : Value} {c : Nat} (hn : xs.length ≤ 1000000) : ∃ G, grownCap w (xs.length + 1) c 3 = G ∧ xs.length + 1 ≤ G ∧ G ≤ maxLen ∧ Mine w.heap.size 1 (w.drew.alloc (.cells ((xs ++ [x]).toArray ++ Builtin.zeroCells (Value.int .i64 0).cells (G - (xs.length + 1))) 3)) (some ⟨w.heap.size, 0, none⟩) (xs.length + 1) G (xs ++ [x]) := by
  have h1 := grownCap_ge w (xs.length + 1) c 3
  have h2 := grownCap_le_maxLen w (xs.length + 1) c 3 (by unfold maxLen; omega)
  obtain ⟨G, hG⟩ : ∃ G, G = grownCap w (xs.length + 1) c 3 := ⟨_, rfl⟩
  rw [← hG] at h1 h2
  refine ⟨G, hG.symm, h1, h2, row_new (Nat.le_refl _) (heap_alloc_new w.drew _) ?_ h1 h2 (by simp) (fun j v hj => ?_)⟩
  · simp only [Array.size_append, size_zeroCells, List.size_toArray, List.length_append, List.length_singleton]
    have : (Value.int .i64 0).cells.size = 1 := rfl
    rw [this]; omega
  · have hjl := (List.getElem?_eq_some_iff.1 hj).1
    rw [Array.getElem?_append_left (by simpa using hjl), List.getElem?_toArray]; exact hj
set_option maxHeartbeats 1000000 in
theorem insert_any {B : Nat} {w : World} {R : Option Addr} {n c : Nat} {xs : List Value} (h : Mine B 1 w R n c xs) (hB : B ≤ w.heap.size) (h1c : ∀ v ∈ xs, v.oneCell' = true) {i : Nat} (hi : i ≤ n) (hn : n ≤ 1000000) (x : Value) (hx : x.oneCell' = true) {vb : Nat} (hvb : w.heap[vb]? = some (.cells #[x] 3 (0, 0))) (hne : ∀ a, R = some a → a.block ≠ vb) :
    Calls Try.prog 52 #[.slice R n c, .int .i64 (i : Int), .slice (some ⟨vb, 0, none⟩) 1 1] w (insPost B w R n (ins xs i x)) := by
  have hl : xs.length = n := by have := h.len; omega
  have hle := h.le
  have hmx := h.max
  unfold maxLen at hmx
  have hvs : ∀ (j : Nat) v, [x][j]? = some v → w.cell? ⟨vb, 0 + j, none⟩ = some v := fun j v hj => by
    rw [cell_of_row w vb _ _ _ (0, 0) hvb, Nat.zero_add]
    cases j with
    | zero => exact hj
    | succ j => simp at hj
  have h1v : ∀ v ∈ [x], v.oneCell' = true := fun v hv => by rw [List.mem_singleton.1 hv]; exact hx
  have hlen := ins_len (xs := xs) (i := i) (by omega) x
  have hlen' : (ins xs i x).length = n + 1 := by omega
  have hend : i = n → ins xs i x = xs ++ [x] := fun e => by
    unfold ins
    rw [e, ← hl, List.take_length, List.drop_length]
  cases R with
  | none =>
    have hc0 := h.non rfl
    have hn0 : n = 0 := by omega
    have hi0 : i = n := by omega
    have hx0 : xs = [] := List.eq_nil_of_length_eq_zero (by omega)
    rw [hend hi0]
    subst hi0
    subst hx0
    obtain ⟨G, hG, hG1, hG2, hM⟩ := new_end (w := w) (xs := []) (x := x) (c := c) (by simp)
    subst hc0
    refine (Any2.slices_Insert_int_end_grow Try.insI none i 0 vb 0 1 1 [] [x] w (by omega) (by omega) (by omega) (by omega) (by simp; omega) rfl (fun _ => hn0) (fun a e => by cases e) hvs h1v).mono ?_
    rintro e w' ⟨rfl, rfl⟩
    subst hn0
    refine ⟨_, G, by rw [← hG]; rfl, ?_, Or.inr (fun a ha => by injection ha with ha; rw [← ha]; exact Nat.le_refl _), (Only.refl _ _).drew.alloc _⟩
    have := hM.mono hB
    rw [← hG] at this ⊢
    exact this
  | some a =>
    obtain ⟨b, off, rfl, hb1, hb2, hsp, hcs⟩ := h.lies a rfl
    have hcs' : ∀ (j : Nat) v, xs[j]? = some v → w.cell? ⟨b, off + j, none⟩ = some v := fun j v hj => by
      obtain ⟨h1, h2⟩ := List.getElem?_eq_some_iff.1 hj
      rw [hcs j h1, h2]
    have hbv : b ≠ vb := hne _ rfl
    have hoF : (fun j => ∃ a, some (⟨b, off, none⟩ : Addr) = some a ∧ a.block = j) b := ⟨_, rfl, rfl⟩
    by_cases hroom : n + 1 ≤ c
    · by_cases hin : i < n
      · obtain ⟨tB, kB, hsb, hkB, _⟩ := World.shape?_of_cell? (hcs' 0 _ (List.getElem?_eq_getElem (by omega)))
        have hsa : w.shape? vb = some (3, 1) := by unfold World.shape?; rw [hvb]; rfl
        refine (Any2.slices_Insert_int_shift Try.insI b off n c i vb 0 1 1 xs [x] w hin (by omega) hroom (by omega) (fun e => hbv e.symm) hl rfl hcs' (fun j hj => (hsp j (by omega)).1) (fun j hj => (hsp j (by omega)).2) hvs h1c h1v _ _ _ _ hsa hsb (by omega) (frozen_of_row w vb _ _ _ hvb) (frozen_of_row w vb _ _ _ hvb)).mono ?_
        rintro e w' ⟨rfl, rfl⟩
        have hdl : (xs.drop i).length = n - i := by rw [List.length_drop, hl]
        have hin1 : ∀ j, j < (xs.drop i).length → (w.drew.cell? ⟨b, off + (i + 1) + j, none⟩).isSome = true := fun j hj => by rw [Nat.add_assoc]; exact (hsp _ (by omega)).1
        have hsm1 : ∀ j, j < c → ((w.drew.setCells b (off + (i + 1)) (xs.drop i)).cell? ⟨b, off + j, none⟩).isSome = true := fun j hj => isSome_setCells b _ _ _ hin1 _ (hsp j (by omega)).1
        have hin2 : ∀ j, j < [x].length → ((w.drew.setCells b (off + (i + 1)) (xs.drop i)).cell? ⟨b, off + i + j, none⟩).isSome = true := fun j hj => by rw [Nat.add_assoc]; exact hsm1 _ (by simp at hj; omega)
        have hrest := setCells_rest [x] (w.drew.setCells b (off + (i + 1)) (xs.drop i)) b (off + i)
        have hrest1 := setCells_rest (xs.drop i) w.drew b (off + (i + 1))
        refine ⟨_, c, rfl, row_in h (by have h1 := hrest.2.2.2; have h2 := hrest1.2.2.2; have h3 : w.drew.heap.size = w.heap.size := rfl; omega) (fun j hj => ⟨isSome_setCells b _ _ _ hin2 _ (hsm1 j hj), ?_⟩) hroom hlen' (fun j v hj => ?_), Or.inl rfl, only_cells (only_cells (Only.refl _ _).drew (Or.inl hoF) _ _) (Or.inl hoF) _ _⟩
        · rw [World.frozen?_setCells, World.frozen?_setCells]; exact (hsp j (by omega)).2
        · have hjl := (List.getElem?_eq_some_iff.1 hj).1
          rcases Nat.lt_trichotomy j i with q | q | q
          · rw [ins_lt (by omega) x q] at hj
            rw [World.cell?_setCells_out b _ _ _ _ (fun _ _ => Or.inl (by show off + j < off + i; omega)), World.cell?_setCells_out b _ _ _ _ (fun _ _ => Or.inl (by show off + j < off + (i + 1); omega))]
            exact hcs' j v hj
          · subst q
            rw [ins_eq (by omega) x] at hj
            exact (World.cell?_setCells_in b [x] (off + j) _ hin2 0 (by simp)).trans hj
          · obtain ⟨k, rfl⟩ : ∃ k, j = k + 1 := ⟨j - 1, by omega⟩
            rw [ins_gt (by omega) x (by omega)] at hj
            obtain ⟨hkl, hkv⟩ := List.getElem?_eq_some_iff.1 hj
            rw [World.cell?_setCells_out b _ _ _ _ (fun _ _ => Or.inr (by show off + i + 1 ≤ off + (k + 1); omega))]
            have := World.cell?_setCells_in b (xs.drop i) (off + (i + 1)) _ hin1 (k - i) (by omega)
            rw [show off + (i + 1) + (k - i) = off + (k + 1) by omega] at this
            rw [this, List.getElem_drop, ← hkv]
            congr 1
            congr 1
            omega
      · have hie : i = n := by omega
        rw [hend hie]
        subst hie
        refine (Any2.slices_Insert_int_end_room Try.insI b off i c vb 0 1 1 [x] w (by omega) hroom (by omega) rfl (fun j hj => by rw [Nat.add_assoc]; exact (hsp _ (by omega)).1) (fun j hj => by rw [Nat.add_assoc]; exact (hsp _ (by omega)).2) hvs h1v).mono ?_
        rintro e w' ⟨rfl, rfl⟩
        have hin2 : ∀ j, j < [x].length → (w.cell? ⟨b, off + i + j, none⟩).isSome = true := fun j hj => by rw [Nat.add_assoc]; exact (hsp _ (by simp at hj; omega)).1
        have hrest := setCells_rest [x] w b (off + i)
        refine ⟨_, c, rfl, row_in h (by have h1 := hrest.2.2.2; omega) (fun j hj => ⟨isSome_setCells b _ _ _ hin2 _ (hsp j (by omega)).1, by rw [World.frozen?_setCells]; exact (hsp j (by omega)).2⟩) hroom (by simp; omega) (fun j v hj => ?_), Or.inl rfl, only_cells (Only.refl _ _) (Or.inl hoF) _ _⟩
        have hjl := (List.getElem?_eq_some_iff.1 hj).1
        rcases Nat.lt_or_ge j i with q | q
        · rw [List.getElem?_append_left (by omega)] at hj
          rw [World.cell?_setCells_out b _ _ _ _ (fun _ _ => Or.inl (by show off + j < off + i; omega))]
          exact hcs' j v hj
        · obtain rfl : j = i := by simp at hjl; omega
          rw [List.getElem?_append_right (by omega), hl, Nat.sub_self] at hj
          exact (World.cell?_setCells_in b [x] (off + j) _ hin2 0 (by simp)).trans hj
    · have hcn : c = n := by omega
      subst hcn
      by_cases hin : i < c
      · refine (Any2.slices_Insert_int_grow Try.insI b off c c i vb 0 1 1 xs [x] w hin (by omega) (by omega) (by omega) (by omega) hl rfl hcs' hvs h1c h1v).mono ?_
        rintro e w' ⟨rfl, rfl⟩
        have h1 := grownCap_ge w (c + 1) c 3
        have h2 := grownCap_le_maxLen w (c + 1) c 3 (by unfold maxLen; omega)
        have e3 : (Try.insI_ren.t 3) = 3 := rfl
        rw [e3]
        obtain ⟨G, hG⟩ : ∃ G, G = grownCap w (c + 1) c 3 := ⟨_, rfl⟩
        rw [← hG] at h1 h2 ⊢
        obtain ⟨A0, hA0⟩ : ∃ A0, A0 = (xs.take i).toArray ++ Builtin.zeroCells (Value.int .i64 0).cells (c + 1 - i) ++ Builtin.zeroCells (Value.int .i64 0).cells (G - (c + 1)) := ⟨_, rfl⟩
        rw [← hA0]
        have hz1 : (Value.int .i64 0).cells.size = 1 := rfl
        have hs0 : A0.size = G := by
          rw [hA0]
          simp only [Array.size_append, size_zeroCells, List.size_toArray, List.length_take, hz1]
          omega
        obtain ⟨u, hu⟩ : ∃ u, u = w.alloc (.cells A0 3) := ⟨_, rfl⟩
        have hub : u.heap[w.heap.size]? = some (.cells A0 3 (0, 0)) := by rw [hu]; exact heap_alloc_new w _
        have huz : u.heap.size = w.heap.size + 1 := by rw [hu]; simp
        have huo : Only (fun j => ∃ a, some (⟨b, off, none⟩ : Addr) = some a ∧ a.block = j) w u := by rw [hu]; exact (Only.refl _ _).alloc _
        rw [← hu]
        have hA : ∀ j, j < i → A0[j]? = xs[j]? := fun j hj => by
          rw [hA0, Array.append_assoc, Array.getElem?_append_left (by simp; omega), List.getElem?_toArray, List.getElem?_take, if_pos hj]
        have hcu : ∀ j, u.drew.cell? ⟨w.heap.size, j, none⟩ = A0[j]? := fun j => cell_of_row u _ j _ _ (0, 0) hub
        have hsu : ∀ j, j < G → (u.drew.cell? ⟨w.heap.size, j, none⟩).isSome = true := fun j hj => by rw [hcu, Array.getElem?_eq_getElem (by omega)]; rfl
        have hi2 : ∀ j, j < [x].length → (u.drew.cell? ⟨w.heap.size, i + j, none⟩).isSome = true := fun j hj => hsu _ (by simp at hj; omega)
        have hdl : (xs.drop i).length = c - i := by rw [List.length_drop, hl]
        have hs1 : ∀ j, j < G → ((u.drew.setCells w.heap.size i [x]).drew.cell? ⟨w.heap.size, j, none⟩).isSome = true := fun j hj => isSome_setCells _ _ _ _ hi2 _ (hsu j hj)
        have hi1 : ∀ j, j < (xs.drop i).length → ((u.drew.setCells w.heap.size i [x]).drew.cell? ⟨w.heap.size, i + 1 + j, none⟩).isSome = true := fun j hj => hs1 _ (by omega)
        have q1 := (setCells_rest [x] u.drew w.heap.size i).2.2.2
        have q2 := (setCells_rest (xs.drop i) (u.drew.setCells w.heap.size i [x]).drew w.heap.size (i + 1)).2.2.2
        have q3 : (u.drew.setCells w.heap.size i [x]).drew.heap.size = (u.drew.setCells w.heap.size i [x]).heap.size := rfl
        have q4 : u.drew.heap.size = u.heap.size := rfl
        refine ⟨_, G, rfl, row_at hB (by omega) (fun j hj => ⟨isSome_setCells _ _ _ _ hi1 _ (hs1 j hj), ?_⟩) h1 h2 hlen' (fun j v hj => ?_), Or.inr (fun a ha => by injection ha with ha; rw [← ha]; exact Nat.le_refl _), only_cells (only_cells huo.drew (Or.inr (Nat.le_refl _)) _ _).drew (Or.inr (Nat.le_refl _)) _ _⟩
        · rw [World.frozen?_setCells]
          show ((u.drew.setCells w.heap.size i [x]).frozen? ⟨w.heap.size, j, none⟩) = false
          rw [World.frozen?_setCells]; exact frozen_of_row u _ _ _ _ hub
        · have hjl := (List.getElem?_eq_some_iff.1 hj).1
          rcases Nat.lt_trichotomy j i with q | q | q
          · rw [ins_lt (by omega) x q] at hj
            rw [World.cell?_setCells_out _ _ _ _ _ (fun _ _ => Or.inl (by show j < i + 1; omega))]
            show (u.drew.setCells w.heap.size i [x]).cell? ⟨w.heap.size, j, none⟩ = some v
            rw [World.cell?_setCells_out _ _ _ _ _ (fun _ _ => Or.inl (by show j < i; omega)), hcu, hA j q]; exact hj
          · subst q
            rw [ins_eq (by omega) x] at hj
            rw [World.cell?_setCells_out _ _ _ _ _ (fun _ _ => Or.inl (by show j < j + 1; omega))]
            exact (World.cell?_setCells_in _ [x] j _ hi2 0 (by simp)).trans hj
          · obtain ⟨k, rfl⟩ : ∃ k, j = k + 1 := ⟨j - 1, by omega⟩
            rw [ins_gt (by omega) x (by omega)] at hj
            obtain ⟨hkl, hkv⟩ := List.getElem?_eq_some_iff.1 hj
            have := World.cell?_setCells_in w.heap.size (xs.drop i) (i + 1) _ hi1 (k - i) (by omega)
            rw [show i + 1 + (k - i) = k + 1 by omega] at this
            rw [this, List.getElem_drop, ← hkv]
            congr 1
            congr 1
            omega
      · have hie : i = c := by omega
        rw [hend hie]
        subst hie
        obtain ⟨G, hG, hG1, hG2, hM⟩ := new_end (w := w) (xs := xs) (x := x) (c := i) (by omega)
        refine (Any2.slices_Insert_int_end_grow Try.insI (some ⟨b, off, none⟩) i i vb 0 1 1 xs [x] w (by omega) (by omega) (by omega) (by omega) hl rfl (fun e => by cases e) (fun a e j v hj => by injection e with e; rw [← e, Nw.add_lit]; exact hcs' j v hj) hvs h1v).mono ?_
        rintro e w' ⟨rfl, rfl⟩
        rw [hl] at hG hM
        refine ⟨_, G, by rw [← hG]; rfl, ?_, Or.inr (fun a ha => by injection ha with ha; rw [← ha]; exact Nat.le_refl _), (Only.refl _ _).drew.alloc _⟩
        have := hM.mono hB
        rw [← hG] at this ⊢
        exact this
end Go.Proofs.Ytmhbfplpodikiaa.Ink
