/- Proves words for rows of cells that a call may write, wherever in a block they begin and whatever their element type is, for what stands still outside some blocks, and what append makes of such a row. Condition: few elements. No program. -/
import Derived.Test.YtmhbfplpodikiaaAp
import Derived.Deep.Upon
import Derived.Deep.AppendSrc
import Derived.Laws.IdiomCopy
namespace Go.Proofs.Ytmhbfplpodikiaa.Mi
open Go.RowKit Ap

/-- Blocks outside F that were there have not changed. -/
structure Only (F : Nat → Prop) (w w' : World) : Prop where
  os : w'.os = w.os
  tape : w'.tape = w.tape
  output : w'.output = w.output
  size : w.heap.size ≤ w'.heap.size
  block : ∀ j, j < w.heap.size → ¬ F j → w'.heap[j]? = w.heap[j]?
/-- F and all blocks that w has not yet. -/
def More (F : Nat → Prop) (w : World) : Nat → Prop := fun j => F j ∨ w.heap.size ≤ j
theorem Only.refl (F : Nat → Prop) (w : World) : Only F w w := ⟨rfl, rfl, rfl, Nat.le_refl _, fun _ _ _ => rfl⟩
theorem Only.of_below {w w' : World} {B : Nat} (h : Below B w w') (hB : w.heap.size ≤ B) (F : Nat → Prop) : Only F w w' :=
  ⟨h.os, h.tape, h.output, h.size, fun j hj _ => h.block j (by omega)⟩
theorem Only.mono {F G : Nat → Prop} {w w' : World} (h : Only F w w') (hFG : ∀ j, j < w.heap.size → F j → G j) : Only G w w' :=
  ⟨h.os, h.tape, h.output, h.size, fun j hj hn => h.block j hj (fun hf => hn (hFG j hj hf))⟩
theorem Only.trans {F : Nat → Prop} {a b c : World} (h : Only F a b) (k : Only (More F a) b c) : Only F a c :=
  ⟨k.os.trans h.os, k.tape.trans h.tape, k.output.trans h.output, Nat.le_trans h.size k.size, fun j hj hn =>
    (k.block j (Nat.lt_of_lt_of_le hj h.size) (fun hm => by rcases hm with hm | hm; exact hn hm; omega)).trans (h.block j hj hn)⟩
theorem Only.below {F : Nat → Prop} {w w' : World} {B : Nat} (h : Only F w w') (hF : ∀ j, F j → B ≤ j) (hB : B ≤ w.heap.size) : Below B w w' :=
  ⟨h.os, h.tape, h.output, h.size, fun j hj => h.block j (by omega) (fun hf => by have := hF j hf; omega)⟩
theorem Only.of_grown {w w' : World} {row : Option Nat} (h : w.grownBy w' row) {F : Nat → Prop} (hr : ∀ k, row = some k → F k) : Only F w w' :=
  ⟨h.os, h.tape, h.output, h.size, fun j hj hn => h.block j hj (fun e => hn (hr j e.symm))⟩
theorem Only.setCell {F : Nat → Prop} {a w : World} (h : Only F a w) {ad : Addr} (hf : More F a ad.block) (u : Value) : Only F a (w.setCell ad u) :=
  ⟨h.os, h.tape, h.output, by simpa using h.size, fun j hj hn => (heap_setCell_other w ad j _ (fun e => by
    subst e; rcases hf with hf | hf
    · exact hn hf
    · omega)).trans (h.block j hj hn)⟩
theorem Only.put {F : Nat → Prop} {a w : World} (h : Only F a w) {ad : Addr} (hf : F ad.block) (u : Value) : Only F a (w.setCell ad u) := h.setCell (Or.inl hf) u
theorem Only.drewN {F : Nat → Prop} {a w : World} (h : Only F a w) (n : Nat) : Only F a (w.drewN n) := ⟨h.os, h.tape, h.output, h.size, h.block⟩
theorem Only.drew {F : Nat → Prop} {a w : World} (h : Only F a w) : Only F a w.drew := ⟨h.os, h.tape, h.output, h.size, h.block⟩
theorem Only.alloc {F : Nat → Prop} {a w : World} (h : Only F a w) (o : Obj) : Only F a (w.alloc o) :=
  h.trans (Only.of_below ((Below.refl _ _).alloc (Nat.le_refl _) o) (Nat.le_refl _) _)
theorem Only.cell {F : Nat → Prop} {w w' : World} (h : Only F w w') {a : Addr} (hl : a.block < w.heap.size) (hn : ¬ F a.block) : w'.cell? a = w.cell? a :=
  World.cell?_of_block (h.block a.block hl hn)
theorem Only.frozen {F : Nat → Prop} {w w' : World} (h : Only F w w') {a : Addr} (hl : a.block < w.heap.size) (hn : ¬ F a.block) : w'.frozen? a = w.frozen? a :=
  World.frozen?_of_block (h.block a.block hl hn)

/-- A row of n elements of sz cells each, from some place of a block on, which may be written up to its capacity. -/
structure Mine (B sz : Nat) (w : World) (A : Option Addr) (n c : Nat) (xs : List Value) : Prop where
  le : n ≤ c
  max : c ≤ maxLen
  len : xs.length = n * sz
  non : A = none → c = 0
  lies : ∀ a, A = some a → ∃ g o, a = ⟨g, o, none⟩ ∧ B ≤ g ∧ g < w.heap.size ∧ (∀ j, j < c * sz → (w.cell? ⟨g, o + j, none⟩).isSome = true ∧ w.frozen? ⟨g, o + j, none⟩ = false) ∧
    ∀ j (h : j < xs.length), w.cell? ⟨g, o + j, none⟩ = some xs[j]
theorem Mine.nil (B sz : Nat) (w : World) : Mine B sz w none 0 0 [] := ⟨Nat.le_refl _, Nat.zero_le _, by simp, fun _ => rfl, fun a e => by cases e⟩
theorem Mine.base {B sz : Nat} {w : World} {A : Option Addr} {n c : Nat} {xs : List Value} (h : Mine B sz w A n c xs) {a : Addr} (ha : A = some a) : B ≤ a.block ∧ a.block < w.heap.size ∧ a.spot = none := by
  obtain ⟨g, o, e, h1, h2, _⟩ := h.lies a ha
  rw [e]; exact ⟨h1, h2, rfl⟩
theorem Mine.mono {B B' sz : Nat} {w : World} {A : Option Addr} {n c : Nat} {xs : List Value} (h : Mine B sz w A n c xs) (hB : B' ≤ B) : Mine B' sz w A n c xs :=
  ⟨h.le, h.max, h.len, h.non, fun a ha => by obtain ⟨g, o, e, h1, h2, h3, h4⟩ := h.lies a ha; exact ⟨g, o, e, by omega, h2, h3, h4⟩⟩
theorem Mine.rebase {B B' sz : Nat} {w : World} {A : Option Addr} {n c : Nat} {xs : List Value} (h : Mine B sz w A n c xs) (hB : ∀ a, A = some a → B' ≤ a.block) : Mine B' sz w A n c xs :=
  ⟨h.le, h.max, h.len, h.non, fun a ha => by obtain ⟨g, o, e, h1, h2, h3, h4⟩ := h.lies a ha; exact ⟨g, o, e, by have := hB a ha; rw [e] at this; exact this, h2, h3, h4⟩⟩
/-- What stands still of the row's block keeps the row. -/
theorem Mine.kept {B sz : Nat} {w w' : World} {A : Option Addr} {n c : Nat} {xs : List Value} (h : Mine B sz w A n c xs) (hb : ∀ a, A = some a → w'.heap[a.block]? = w.heap[a.block]?) (hs : w.heap.size ≤ w'.heap.size) : Mine B sz w' A n c xs :=
  ⟨h.le, h.max, h.len, h.non, fun a ha => by
    obtain ⟨g, o, e, h1, h2, h3, h4⟩ := h.lies a ha
    have hb' := hb a ha
    rw [e] at hb'
    exact ⟨g, o, e, h1, by omega, fun j hj => ⟨by rw [World.cell?_of_block (a := ⟨g, o + j, none⟩) hb']; exact (h3 j hj).1, by rw [World.frozen?_of_block (a := ⟨g, o + j, none⟩) hb']; exact (h3 j hj).2⟩,
      fun j hj => by rw [World.cell?_of_block (a := ⟨g, o + j, none⟩) hb']; exact h4 j hj⟩⟩
theorem Mine.below {B B' sz : Nat} {w w' : World} {A : Option Addr} {n c : Nat} {xs : List Value} (h : Mine B sz w A n c xs) (hb : Below B' w w') (hB : w.heap.size ≤ B') : Mine B sz w' A n c xs :=
  h.kept (fun a ha => hb.block _ (by have := (h.base ha).2.1; omega)) hb.size
theorem Mine.only {B sz : Nat} {w w' : World} {A : Option Addr} {n c : Nat} {xs : List Value} (h : Mine B sz w A n c xs) {F : Nat → Prop} (ho : Only F w w') (hn : ∀ a, A = some a → ¬ F a.block) : Mine B sz w' A n c xs :=
  h.kept (fun a ha => ho.block _ (h.base ha).2.1 (hn a ha)) ho.size
theorem Mine.drewN {B sz : Nat} {w : World} {A : Option Addr} {n c : Nat} {xs : List Value} (h : Mine B sz w A n c xs) (k : Nat) : Mine B sz (w.drewN k) A n c xs := h.kept (fun _ _ => rfl) (Nat.le_refl _)
/-- A row of the call's own is such a row. -/
theorem Mine.of_own {B sz : Nat} {w : World} {e : TypeId} {v : Value} {n : Nat} {xs : List Value} (h : w.ownsRow B e sz v n xs) : ∃ A c, v = .slice A n c ∧ Mine B sz w A n c xs ∧ (∀ a, A = some a → v.ownBlock = some a.block) := by
  rcases h.2 with ⟨rfl, h1⟩ | ⟨g, cap, cur, rfl, hB, hg, hc, hm, hs, ht⟩
  · obtain rfl : xs = [] := List.eq_nil_of_length_eq_zero (by rw [h.1, h1]; simp)
    subst h1
    exact ⟨none, 0, rfl, Mine.nil _ _ _, fun a e => by cases e⟩
  · have hl := h.1
    refine ⟨_, _, rfl, ⟨hc, hm, hl, (fun e => by cases e), fun a ha => ?_⟩, fun a ha => by injection ha with ha; rw [← ha]; rfl⟩
    injection ha with ha
    have hmul : n * sz ≤ cap * sz := Nat.mul_le_mul_right _ hc
    refine ⟨g, 0, ha.symm, hB, (Array.getElem?_eq_some_iff.1 hg).1, fun j hj => ?_, fun j hj => ?_⟩
    · rw [Nat.zero_add]
      exact ⟨by rw [cell_of_row w g j cur _ (0, 0) hg, Array.getElem?_eq_getElem (by omega)]; rfl, frozen_of_row w g j _ _ hg⟩
    · rw [Nat.zero_add, cell_of_row w g j cur _ (0, 0) hg]
      have e : (cur.toList.take (n * sz))[j]? = xs[j]? := by rw [ht]
      rw [List.getElem?_take, if_pos (by omega), Array.getElem?_toList] at e
      rw [e, List.getElem?_eq_getElem hj]
/-- A row that has just been laid. -/
theorem Mine.lit {sz : Nat} (w : World) (cs : Array Value) (e : TypeId) (n : Nat) (hn : cs.size = n * sz) (hm : n ≤ maxLen) : Mine w.heap.size sz (w.alloc (.cells cs e)) (some ⟨w.heap.size, 0, none⟩) n n cs.toList :=
  ⟨Nat.le_refl _, hm, by simpa using hn, (fun e => by cases e), fun a ha => by
    injection ha with ha
    refine ⟨w.heap.size, 0, ha.symm, Nat.le_refl _, by simp, fun j hj => ?_, fun j hj => ?_⟩
    · rw [Nat.zero_add]
      exact ⟨by rw [cell_of_row _ _ j cs e (0, 0) (heap_alloc_new w _), Array.getElem?_eq_getElem (by omega)]; rfl, frozen_of_row _ _ j _ _ (heap_alloc_new w _)⟩
    · rw [Nat.zero_add, cell_of_row _ _ j cs e (0, 0) (heap_alloc_new w _)]
      simp⟩
/-- The address behind 's[k:]' where s has the capacity c and elements of sz cells. -/
def cutM (A : Option Addr) (sz k c : Nat) : Option Addr := if c = k then A else A.map (·.add (k * sz))
theorem add_lit (b o j : Nat) : (⟨b, o, none⟩ : Addr).add j = ⟨b, o + j, none⟩ := by unfold Addr.add; split <;> simp_all
theorem cutM_block {A : Option Addr} {sz k c : Nat} {a : Addr} (h : cutM A sz k c = some a) : ∃ a0, A = some a0 ∧ a0.block = a.block := by
  unfold cutM at h
  split at h
  · exact ⟨a, h, rfl⟩
  · rw [Option.map_eq_some_iff] at h
    obtain ⟨a0, h1, rfl⟩ := h
    exact ⟨a0, h1, by unfold Addr.add; split <;> rfl⟩
theorem Mine.cut {B sz : Nat} {w : World} {A : Option Addr} {n c : Nat} {xs : List Value} (h : Mine B sz w A n c xs) (k : Nat) (hk : k ≤ n) : Mine B sz w (cutM A sz k c) (n - k) (c - k) (xs.drop (k * sz)) := by
  have hle := h.le
  refine ⟨by omega, by have := h.max; omega, by rw [List.length_drop, h.len, Nat.sub_mul], fun e => ?_, fun a ha => ?_⟩
  · unfold cutM at e
    split at e
    · omega
    · rw [Option.map_eq_none_iff] at e; rw [h.non e]; omega
  · unfold cutM at ha
    split at ha
    · rename_i hck
      obtain ⟨g, o, e, h1, h2, h3, h4⟩ := h.lies a ha
      refine ⟨g, o, e, h1, h2, fun j hj => ?_, fun j hj => ?_⟩
      · rw [hck] at hj; simp at hj
      · rw [List.length_drop, h.len, ← Nat.sub_mul] at hj
        have : n - k = 0 := by omega
        rw [this] at hj; simp at hj
    · rename_i hck
      rw [Option.map_eq_some_iff] at ha
      obtain ⟨a0, e0, rfl⟩ := ha
      obtain ⟨g, o, rfl, h1, h2, h3, h4⟩ := h.lies a0 e0
      refine ⟨g, o + k * sz, add_lit _ _ _, h1, h2, fun j hj => ?_, fun j hj => ?_⟩
      · rw [Nat.add_assoc]
        rw [Nat.sub_mul] at hj
        exact h3 (k * sz + j) (by omega)
      · rw [List.length_drop] at hj
        rw [Nat.add_assoc, h4 (k * sz + j) (by omega), List.getElem_drop]
/-- A cell of the row is written. -/
theorem Mine.store {B sz : Nat} {w : World} {g o n c : Nat} {xs : List Value} (h : Mine B sz w (some ⟨g, o, none⟩) n c xs) (k : Nat) (hk : k < xs.length) (u : Value) : Mine B sz (w.setCell ⟨g, o + k, none⟩ u) (some ⟨g, o, none⟩) n c (xs.set k u) := by
  refine ⟨h.le, h.max, by rw [List.length_set]; exact h.len, h.non, fun a ha => ?_⟩
  obtain ⟨g', o', e, h1, h2, h3, h4⟩ := h.lies a ha
  injection ha with ha
  rw [← ha] at e
  injection e with e1 e2
  subst e1; subst e2
  have hmul : n * sz ≤ c * sz := Nat.mul_le_mul_right _ h.le
  have hlen := h.len
  refine ⟨g, o, ha.symm, h1, by simpa using h2, fun j hj => ?_, fun j hj => ?_⟩
  · refine ⟨?_, by rw [World.frozen?_setCell]; exact (h3 j hj).2⟩
    by_cases hjk : j = k
    · subst hjk
      have := (h3 j hj).1
      obtain ⟨x, hx⟩ := Option.isSome_iff_exists.1 this
      rw [World.cell?_setCell_same w _ _ hx]; rfl
    · rw [World.cell?_setCell_other w _ _ _ (by simp)]; exact (h3 j hj).1
  · have hj' : j < xs.length := by rw [List.length_set] at hj; exact hj
    by_cases hjk : j = k
    · subst hjk
      rw [World.cell?_setCell_same w _ _ (h4 j hj'), List.getElem_set_self]
    · rw [World.cell?_setCell_other w _ _ _ (by simp), h4 j hj', List.getElem_set_ne (by omega)]
theorem heap_setCells : ∀ (vs : List Value) (w : World) (b o j : Nat), j ≠ b → (w.setCells b o vs).heap[j]? = w.heap[j]?
  | [], _, _, _, _, _ => rfl
  | v :: r, w, b, o, j, h => by
    rw [World.setCells, heap_setCells r _ b (o + 1) j h]
    exact heap_setCell_other w ⟨b, o, none⟩ j _ h
theorem setCells_rest : ∀ (vs : List Value) (w : World) (b o : Nat), (w.setCells b o vs).os = w.os ∧ (w.setCells b o vs).tape = w.tape ∧ (w.setCells b o vs).output = w.output ∧ (w.setCells b o vs).heap.size = w.heap.size
  | [], _, _, _ => ⟨rfl, rfl, rfl, rfl⟩
  | v :: r, w, b, o => by
    rw [World.setCells]
    obtain ⟨h1, h2, h3, h4⟩ := setCells_rest r (w.setCell ⟨b, o, none⟩ v) b (o + 1)
    exact ⟨h1, h2, h3, by rw [h4]; simp⟩
section
variable {P : Program}
/-- What an element type is: its row of the table of types. -/
structure Elm (P : Program) (t e : TypeId) (z : Value) (sz : Nat) : Prop where
  sl : P.underlying t = some (.slice e)
  info : (P.info? e).map (fun i => (i.zero, i.size)) = some (some z, sz)
  small : ∀ i, P.info? e = some i → i.bytes ≤ 1024
  cells : z.cells.size = sz
  pos : 0 < sz
/-- 'append' onto such a row, out of whatever source: the row that is left. -/
theorem run_mine {t e : TypeId} {z : Value} {sz : Nat} (hel : Elm P t e z sz) (tx ty : TypeId) {B : Nat} {w : World} {A : Option Addr} {n c : Nat} {xs : List Value} (h : Mine B sz w A n c xs)
    (x : Value) (m : Nat) (news : List Value) (hs : Src P sz tx x m news w) (hn : n ≤ 1000000000) (hm : m ≤ 1000000000) (hB : B ≤ w.heap.size) :
    ∃ A' c' w', (Builtin.append_ #[t, tx] ty #[.slice A n c, x]).run P w = .ok (.slice A' (n + m) c') w' ∧ Mine B sz w' A' (n + m) c' (xs ++ news) ∧ w.grownBy w' (A.map (·.block)) ∧ (A' = A ∨ ∀ a, A' = some a → w.heap.size ≤ a.block) := by
  have hi := hel.info
  rw [Option.map_eq_some_iff] at hi
  obtain ⟨i, hi1, hi2⟩ := hi
  simp only [Prod.mk.injEq] at hi2
  obtain ⟨hz, hsz⟩ := hi2
  have hb := hel.small i hi1
  subst hsz
  have hmul : (n + m) * i.bytes ≤ 2000000000 * 1024 := Nat.mul_le_mul (by omega) hb
  have hlen : (xs ++ news).length = (n + m) * i.size := by rw [List.length_append, h.len, hs.newsLen, Nat.add_mul]
  have hml : maxLen = 140737488355328 - 4096 ∨ True := Or.inr trivial
  by_cases hroom : n + m ≤ c
  · by_cases hm0 : m = 0
    · subst hm0
      obtain rfl : news = [] := List.eq_nil_of_length_eq_zero (by simpa using hs.newsLen)
      have hr := run_append_nothing (P := P) w t tx ty e i hel.sl hi1 A n c h.le x hs
      exact ⟨A, c, w, hr, by simpa using h, World.grownBy.refl w _, Or.inl rfl⟩
    · cases A with
      | none => have := h.non rfl; omega
      | some a =>
        obtain ⟨g, o, rfl, h1, h2, h3, h4⟩ := h.lies a rfl
        have hfit : n * i.size + news.length ≤ c * i.size := by rw [hs.newsLen, ← Nat.add_mul]; exact Nat.mul_le_mul_right _ hroom
        have hspare : ∀ j, j < news.length → (w.cell? ⟨g, o + n * i.size + j, none⟩).isSome = true ∧ w.frozen? ⟨g, o + n * i.size + j, none⟩ = false := fun j hj => by
          rw [Nat.add_assoc]; exact h3 _ (by omega)
        have hr := run_append_room_src (P := P) w t tx ty e i hel.sl hi1 g o n c x m news hs hroom (fun j hj => (hspare j hj).1) (fun j hj => (hspare j hj).2)
        obtain ⟨r1, r2, r3, r4⟩ := setCells_rest news w g (o + n * i.size)
        refine ⟨_, _, _, hr, ⟨hroom, h.max, hlen, (fun e => by cases e), fun a' ha => ?_⟩, ⟨r1, r2, r3, by omega, fun j _ hj => heap_setCells _ _ _ _ _ (fun e => hj (by simp [e]))⟩, Or.inl rfl⟩
        injection ha with ha
        have hxl := h.len
        refine ⟨g, o, ha.symm, h1, by omega, fun j hj => ⟨?_, by rw [World.frozen?_setCells]; exact (h3 j hj).2⟩, fun j hj => ?_⟩
        · by_cases hin : n * i.size ≤ j ∧ j < n * i.size + news.length
          · have := World.cell?_setCells_in g news (o + n * i.size) w (fun j hj => (hspare j hj).1) (j - n * i.size) (by omega)
            rw [show o + n * i.size + (j - n * i.size) = o + j from by omega] at this
            rw [this]; rfl
          · rw [World.cell?_setCells_out g news _ w ⟨g, o + j, none⟩ (fun _ _ => by simp only; omega)]; exact (h3 j hj).1
        · by_cases hin : j < xs.length
          · rw [World.cell?_setCells_out g news _ w ⟨g, o + j, none⟩ (fun _ _ => by simp only; omega), h4 j hin, List.getElem_append_left hin]
          · rw [List.length_append] at hj
            have := World.cell?_setCells_in g news (o + n * i.size) w (fun j hj => (hspare j hj).1) (j - n * i.size) (by omega)
            rw [show o + n * i.size + (j - n * i.size) = o + j from by omega] at this
            rw [this, List.getElem_append_right (by omega)]
            simp only [hxl]
  · have hold : (Builtin.firstCells i.size n (.slice A n c)).run P w.drew = .ok xs.toArray w.drew := by
      cases A with
      | none =>
        have h0 := h.non rfl
        have hle := h.le
        obtain rfl : n = 0 := by omega
        obtain rfl : xs = [] := List.eq_nil_of_length_eq_zero (by simpa using h.len)
        exact run_firstCells_none w.drew i.size 0 0 c
      | some a =>
        obtain ⟨g, o, rfl, h1, h2, h3, h4⟩ := h.lies a rfl
        refine run_firstCells_some w.drew i.size n _ n c xs h.len (fun j u hu => ?_)
        obtain ⟨hj, rfl⟩ := List.getElem?_eq_some_iff.1 hu
        rw [add_lit]
        exact h4 j hj
    have hge := grownCap_ge w (n + m) c e
    have hcm : grownCap w (n + m) c e ≤ maxLen := grownCap_le_maxLen w (n + m) c e (by unfold maxLen; omega)
    have hr := run_append_grow_src (P := P) w t tx ty e i z hel.sl hi1 hz A n c xs hold x m news hs (by omega) (by omega) (growslice_fits (by omega) (by omega))
    have hown : (w.drew.alloc (.cells ((xs ++ news).toArray ++ Builtin.zeroCells z.cells (grownCap w (n + m) c e - (n + m))) e)).ownsRow B e i.size (.slice (some ⟨w.heap.size, 0, none⟩) (n + m) (grownCap w (n + m) c e)) (n + m) (xs ++ news) := by
      refine ⟨hlen, .inr ⟨w.heap.size, _, _, rfl, hB, heap_alloc_new w.drew _, hge, hcm, ?_, ?_⟩⟩
      · simp only [Array.size_append, List.size_toArray, size_zeroCells, hel.cells, hlen, ← Nat.add_mul]
        congr 1
        omega
      · simp only [Array.toList_append, ← hlen]
        exact List.take_left
    obtain ⟨A', c', e1, hM, _⟩ := Mine.of_own hown
    injection e1 with e1 e2 e3
    refine ⟨some ⟨w.heap.size, 0, none⟩, grownCap w (n + m) c e, _, hr, by rw [← e1, ← e3] at hM; exact hM, ⟨rfl, rfl, rfl, by simp, fun k hk _ => heap_alloc_old w.drew _ (by simpa using hk)⟩, Or.inr (fun a ha => by injection ha with ha; rw [← ha]; exact Nat.le_refl _)⟩
theorem wp_mine {o : Oper} {a : Act} {K : Act → World → Prop} {Q : Exit → Act → World → Prop} (s x : Operand) {t e : TypeId} {z : Value} {sz : Nat} (hel : Elm P t e z sz) (tx : TypeId)
    (ho : o.op = .call { callee := .builtin .append, args := #[s, x], argTypes := #[t, tx] })
    {B : Nat} {w : World} {A : Option Addr} {n c : Nat} {xs : List Value} (hs : a.eval s = .slice A n c) (h : Mine B sz w A n c xs)
    (v : Value) (hx : a.eval x = v) (m : Nat) (news : List Value) (hsrc : Src P sz tx v m news w) (hn : n ≤ 1000000000) (hm : m ≤ 1000000000) (hB : B ≤ w.heap.size)
    (hK : ∀ A' c' w', Mine B sz w' A' (n + m) c' (xs ++ news) → w.grownBy w' (A.map (·.block)) → (A' = A ∨ ∀ a, A' = some a → w.heap.size ≤ a.block) → K (a.put o.dst (.slice A' (n + m) c')) w') : o.wp P a w K Q := by
  obtain ⟨A', c', w', hr, h1, h2, h3⟩ := run_mine (P := P) hel tx o.type h v m news hsrc hn hm hB
  unfold Oper.wp execOp
  simp only [ho, resolve, invoke, builtin, Sem.run_bind, Sem.run_pure, Result.andThen_ok, List.map_toArray, List.map_cons, List.map_nil, hs, hx, hr]
  exact hK A' c' w' h1 h2 h3
/-- For a plain list of operations. -/
theorem wpList_mine {ops : Array Oper} {rest : List Oper} {o : Oper} {a : Act} {Q : Exit → Act → World → Prop} (hgd : o.guard = none) (s x : Operand) {t e : TypeId} {z : Value} {sz : Nat} (hel : Elm P t e z sz) (tx : TypeId)
    (ho : o.op = .call { callee := .builtin .append, args := #[s, x], argTypes := #[t, tx] })
    {B : Nat} {w : World} {A : Option Addr} {n c : Nat} {xs : List Value} (hs : a.eval s = .slice A n c) (h : Mine B sz w A n c xs)
    (v : Value) (hx : a.eval x = v) (m : Nat) (news : List Value) (hsrc : Src P sz tx v m news w) (hn : n ≤ 1000000000) (hm : m ≤ 1000000000) (hB : B ≤ w.heap.size)
    (hK : ∀ A' c' w', Mine B sz w' A' (n + m) c' (xs ++ news) → w.grownBy w' (A.map (·.block)) → (A' = A ∨ ∀ a, A' = some a → w.heap.size ≤ a.block) → wpList P ops Q rest (a.put o.dst (.slice A' (n + m) c')) w') :
    wpList P ops Q (o :: rest) a w :=
  wpList_plain hgd fun _ hK' => wp_mine s x hel tx ho hs h v hx m news hsrc hn hm hB fun A' c' w' h1 h2 h3 => hK' _ _ (hK A' c' w' h1 h2 h3)
/-- In a region that draws its order, guarded or not. -/
theorem step_mine {ops : Array Oper} {o : Oper} {a : Act} {K : Act → World → Prop} {Q : Exit → Act → World → Prop} {E : Prop} (hwd : Region.wanted o (yielded ops a.tmps) = true) (s x : Operand) {t e : TypeId} {z : Value} {sz : Nat} (hel : Elm P t e z sz) (tx : TypeId)
    (ho : o.op = .call { callee := .builtin .append, args := #[s, x], argTypes := #[t, tx] })
    {B : Nat} {w : World} {A : Option Addr} {n c : Nat} {xs : List Value} (hs : a.eval s = .slice A n c) (h : Mine B sz w A n c xs)
    (v : Value) (hx : a.eval x = v) (m : Nat) (news : List Value) (hsrc : Src P sz tx v m news w) (hn : n ≤ 1000000000) (hm : m ≤ 1000000000) (hB : B ≤ w.heap.size)
    (hK : ∀ A' c' w', Mine B sz w' A' (n + m) c' (xs ++ news) → w.grownBy w' (A.map (·.block)) → (A' = A ∨ ∀ a, A' = some a → w.heap.size ≤ a.block) → K (a.put o.dst (.slice A' (n + m) c')) w') :
    if Region.wanted o (yielded ops a.tmps) = true then Oper.wp P o a w K Q else E := by
  rw [if_pos hwd]
  exact wp_mine s x hel tx ho hs h v hx m news hsrc hn hm hB hK
end
end Go.Proofs.Ytmhbfplpodikiaa.Mi
