/- Plain facts of package key, the second part: segments, folders, keys out of segments, tags in order, what two strings have in common. No program, no condition. -/
import Derived.Test.YtjieiakgikhofaaDoorKm
namespace Go.Proofs.YtjieiakgikhofaaDoor.Kt
open Go Km

/-! ### what two strings begin with together -/
def com : Bs → Bs → Nat
  | a :: x, b :: y => if a = b then com x y + 1 else 0
  | _, _ => 0
theorem com_stop : ∀ (a b : Bs) (k : Nat), k ≤ a.length → k ≤ b.length → (∀ j, j < k → a[j]? = b[j]?) → (∀ (h1 : k < a.length) (h2 : k < b.length), a[k] ≠ b[k]) → com a b = k
  | a :: x, b :: y, 0, _, _, _, hn => by
    unfold com; rw [if_neg (fun e => hn (by simp) (by simp) e)]
  | a :: x, b :: y, k + 1, h1, h2, he, hn => by
    have h0 : a = b := by simpa using he 0 (by omega)
    unfold com
    rw [if_pos h0, com_stop x y k (by simpa using h1) (by simpa using h2) (fun j hj => by simpa using he (j + 1) (by omega)) (fun g1 g2 e => hn (by simpa using g1) (by simpa using g2) e)]
  | [], b, k, h1, _, _, _ => by simp at h1; subst h1; simp [com]
  | a :: x, [], k, _, h2, _, _ => by simp at h2; subst h2; simp [com]

/-! ### segments -/
def consH (c : UInt8) : List Bs → List Bs
  | [] => [[c]]
  | x :: r => (c :: x) :: r
def segs : Bs → List Bs
  | [] => [[]]
  | c :: l => if c = 47 then [] :: segs l else consH c (segs l)
theorem segs_ne : ∀ s : Bs, segs s ≠ []
  | [] => by simp [segs]
  | c :: l => by unfold segs; split; simp; cases segs l <;> simp [consH]
theorem consH_len (c : UInt8) {l : List Bs} (h : l ≠ []) : (consH c l).length = l.length := by cases l; exact absurd rfl h; rfl
theorem segs_len : ∀ s : Bs, (segs s).length = s.count 47 + 1
  | [] => rfl
  | c :: l => by
    unfold segs
    split
    · rename_i h; subst h; simp [segs_len l]
    · rename_i h; rw [consH_len c (segs_ne l), segs_len l, List.count_cons_of_ne h]
theorem splitK_consH (c : UInt8) (h : c ≠ 47) : ∀ (k : Nat) (l : Bs), Lib.splitK [47] 0 k (c :: l) = consH c (Lib.splitK [47] 0 k l)
  | 0, l => rfl
  | k + 1, l => by
    have hp : ([47] : List UInt8).isPrefixOf (c :: l) = false := by simp [List.isPrefixOf, Ne.symm h]
    have hix : Lib.index (c :: l) [47] = if Lib.index l [47] == -1 then -1 else Lib.index l [47] + 1 := by rw [Lib.index, hp]; simp
    have hge := Lib.index_ge l [47]
    by_cases hm : Lib.index l [47] = -1
    · have h1 : Lib.index (c :: l) [47] = -1 := by rw [hix, hm]; rfl
      unfold Lib.splitK; rw [h1, hm]; rfl
    · obtain ⟨i, hi⟩ : ∃ i : Nat, Lib.index l [47] = i := ⟨(Lib.index l [47]).toNat, by omega⟩
      have hb : (Lib.index l [47] == -1) = false := by rw [beq_eq_false_iff_ne]; exact hm
      have h1 : Lib.index (c :: l) [47] = ((i + 1 : Nat) : Int) := by rw [hix, hb, hi]; simp
      have hb1 : ((((i + 1 : Nat) : Int)) == -1) = false := by rw [beq_eq_false_iff_ne]; omega
      have hb2 : (((i : Nat) : Int) == -1) = false := by rw [beq_eq_false_iff_ne]; omega
      unfold Lib.splitK
      rw [h1, hi, hb1, hb2]
      simp [consH]
theorem splitK_slash (k : Nat) (l : Bs) : Lib.splitK [47] 0 (k + 1) (47 :: l) = [] :: Lib.splitK [47] 0 k l := by
  have h1 : Lib.index (47 :: l) [47] = 0 := by rw [Lib.index]; simp [List.isPrefixOf]
  rw [Lib.splitK, h1]; simp
theorem splitK_segs : ∀ s : Bs, Lib.splitK [47] 0 (s.count 47) s = segs s
  | [] => rfl
  | c :: l => by
    by_cases h : c = 47
    · subst h
      rw [List.count_cons_self, splitK_slash, splitK_segs l, segs, if_pos rfl]
    · rw [List.count_cons_of_ne h, splitK_consH c h, splitK_segs l, segs, if_neg h]
theorem split_segs (s : ByteArray) : (Lib.splitB ⟨#[47]⟩ 0 (Lib.countB s ⟨#[47]⟩) s).map (·.data.toList) = segs s.data.toList := by
  rw [Lib.splitB_data]
  have e : Lib.countB s ⟨#[47]⟩ = s.data.toList.count 47 := Lib.count_one 47 s.data.toList
  rw [e]; exact splitK_segs _
theorem count_segs (s : ByteArray) : Lib.countB s ⟨#[47]⟩ + 1 = (segs s.data.toList).length := by
  have e : Lib.countB s ⟨#[47]⟩ = s.data.toList.count 47 := Lib.count_one 47 s.data.toList
  rw [e, segs_len]
/-- one byte more -/
theorem segs_slash (s : Bs) : segs (s ++ [47]) = segs s ++ [[]] := by
  induction s with
  | nil => rfl
  | cons c l ih =>
    show segs (c :: (l ++ [47])) = segs (c :: l) ++ [[]]
    unfold segs
    split
    · rw [ih]; rfl
    · rw [ih]
      have := segs_ne l
      match h : segs l with
      | [] => exact absurd h this
      | x :: r => rfl
/-- the last of some segments, one byte longer -/
def snocH (c : UInt8) : List Bs → List Bs
  | [] => [[c]]
  | [x] => [x ++ [c]]
  | x :: y :: r => x :: snocH c (y :: r)
theorem segs_other (s : Bs) (c : UInt8) (h : c ≠ 47) : segs (s ++ [c]) = snocH c (segs s) := by
  induction s with
  | nil => simp [segs, h, consH, snocH]
  | cons d l ih =>
    show segs (d :: (l ++ [c])) = _
    unfold segs
    have hne := segs_ne l
    match hs : segs l with
    | [] => exact absurd hs hne
    | [x] =>
      rw [hs] at ih
      rw [ih]
      split <;> simp [snocH, consH]
    | x :: y :: r =>
      rw [hs] at ih
      rw [ih]
      split <;> simp [snocH, consH]
theorem snocH_append (c : UInt8) (l : List Bs) (x : Bs) : snocH c (l ++ [x]) = l ++ [x ++ [c]] := by
  induction l with
  | nil => rfl
  | cons y r ih =>
    match r, ih with
    | [], _ => rfl
    | z :: r', ih => show y :: snocH c (z :: r' ++ [x]) = _; rw [ih]; rfl
theorem segs_one (s : Bs) : (segs s).length = 1 ↔ (47 : UInt8) ∉ s := by
  rw [segs_len]
  constructor
  · intro h; exact List.count_eq_zero.1 (by omega)
  · intro h; rw [List.count_eq_zero.2 h]
theorem contains_slash (s : Bs) : Lib.contains s [47] = decide ((47 : UInt8) ∈ s) := by
  unfold Lib.contains
  congr 1
  rw [eq_iff_iff]
  induction s with
  | nil => simp [Lib.index]
  | cons c l ih =>
    by_cases h : c = 47
    · subst h
      have h1 : Lib.index (47 :: l) [47] = 0 := by rw [Lib.index]; simp [List.isPrefixOf]
      rw [h1]; simp
    · have hp : ([47] : List UInt8).isPrefixOf (c :: l) = false := by simp [List.isPrefixOf, Ne.symm h]
      have hix : Lib.index (c :: l) [47] = if Lib.index l [47] == -1 then -1 else Lib.index l [47] + 1 := by rw [Lib.index, hp]; simp
      have hge := Lib.index_ge l [47]
      have hm : (47 : UInt8) ∈ c :: l ↔ 47 ∈ l := by simp [Ne.symm h]
      rw [hix, hm, ← ih]
      by_cases hi : Lib.index l [47] = -1
      · rw [hi]; simp
      · have hb : (Lib.index l [47] == -1) = false := by rw [beq_eq_false_iff_ne]; exact hi
        rw [hb]; simp; omega

/-! ### a key out of segments -/
def joinL (l : List Bs) : Bs := Lib.join l [47]
theorem joinL_nil : joinL [] = [] := rfl
theorem joinL_snoc (l : List Bs) (x : Bs) (h : l ≠ []) : joinL (l ++ [x]) = joinL l ++ [47] ++ x := by
  match l with
  | [] => exact absurd rfl h
  | y :: r =>
    show Lib.join (y :: (r ++ [x])) [47] = _
    unfold joinL
    rw [Lib.join_cons, Lib.join_cons]
    simp [Lib.joinTail]
theorem joinL_one (x : Bs) : joinL [x] = x := Lib.join_one x _
theorem joinL_cons2 (x y : Bs) (r : List Bs) : joinL (x :: y :: r) = x ++ [47] ++ joinL (y :: r) := by
  unfold joinL
  rw [Lib.join_cons, Lib.join_cons]
  simp [Lib.joinTail]
theorem join_consH (c : UInt8) {l : List Bs} (h : l ≠ []) : joinL (consH c l) = c :: joinL l := by
  match l with
  | [] => exact absurd rfl h
  | [x] => simp [consH, joinL_one]
  | x :: y :: r => simp [consH, joinL_cons2]
theorem join_segs (s : Bs) : joinL (segs s) = s := by
  induction s with
  | nil => rfl
  | cons c l ih =>
    unfold segs
    split
    · rename_i h
      subst h
      match hs : segs l with
      | [] => exact absurd hs (segs_ne l)
      | y :: r => rw [joinL_cons2, ← hs, ih]; rfl
    · rw [join_consH c (segs_ne l), ih]
theorem segs_mem (s : Bs) : ∀ x ∈ segs s, (47 : UInt8) ∉ x := by
  induction s with
  | nil => simp [segs]
  | cons c l ih =>
    unfold segs
    split
    · intro x hx
      rcases List.mem_cons.1 hx with rfl | hx
      · simp
      · exact ih x hx
    · rename_i h
      match hs : segs l with
      | [] => exact absurd hs (segs_ne l)
      | y :: r =>
        rw [hs] at ih
        intro x hx
        rcases List.mem_cons.1 hx with rfl | hx
        · have := ih y (by simp)
          simp only [List.mem_cons, not_or]; exact ⟨Ne.symm h, this⟩
        · exact ih x (by simp [hx])
def noSlash (l : List Bs) : Bool := l.all fun x => decide ((47 : UInt8) ∉ x)
def validL (s : Bs) : Bool := decide (1 ≤ s.length ∧ s.length ≤ 250)
def fitL (l : List Bs) : Bool := noSlash l && decide ((joinL l).length ≤ 250)
def joinOk (l : List Bs) : Bool := noSlash l && validL (joinL l)
theorem joinOk_segs (s : Bs) (h : validL s = true) : joinOk (segs s) = true := by
  unfold joinOk
  rw [join_segs, h]
  have : noSlash (segs s) = true := by
    unfold noSlash; rw [List.all_eq_true]; intro x hx; simpa using segs_mem s x hx
  rw [this]; rfl
theorem fit_of_ok (l : List Bs) : joinOk l = (fitL l && validL (joinL l)) := by
  unfold joinOk fitL validL
  by_cases h : (joinL l).length ≤ 250 <;> simp [h]

/-! ### folders -/
def foldTo (s : Bs) : Nat → List Bs
  | 0 => []
  | k + 1 => if s[k]? = some 47 then foldTo s k ++ [s.take (k + 1)] else foldTo s k
def foldersL (s : Bs) : List Bs := foldTo s s.length
theorem foldTo_len (s : Bs) : ∀ k, (foldTo s k).length = (s.take k).count 47
  | 0 => by simp [foldTo]
  | k + 1 => by
    unfold foldTo
    rw [List.take_add_one]
    split
    · rename_i h; rw [h]; simp [foldTo_len s k]
    · rename_i h
      rw [foldTo_len s k, List.count_append]
      have : List.count 47 (s[k]?).toList = 0 := by
        match hk : s[k]? with
        | none => rfl
        | some c => rw [hk] at h; simp only [Option.some.injEq] at h; simp [h]
      omega
theorem folders_len (s : Bs) : (foldersL s).length + 1 = (segs s).length := by
  unfold foldersL; rw [foldTo_len, segs_len, List.take_length]
theorem foldTo_mem (s : Bs) : ∀ k, ∀ p ∈ foldTo s k, ∃ j, j < k ∧ s[j]? = some 47 ∧ p = s.take (j + 1)
  | 0, p, h => by simp [foldTo] at h
  | k + 1, p, h => by
    unfold foldTo at h
    split at h
    · rename_i g
      rcases List.mem_append.1 h with h | h
      · obtain ⟨j, h1, h2, h3⟩ := foldTo_mem s k p h; exact ⟨j, by omega, h2, h3⟩
      · simp only [List.mem_singleton] at h; exact ⟨k, by omega, g, h⟩
    · obtain ⟨j, h1, h2, h3⟩ := foldTo_mem s k p h; exact ⟨j, by omega, h2, h3⟩
theorem foldTo_pair (s : Bs) : ∀ k, (foldTo s k).Pairwise fun p q => p.length < q.length ∧ ∃ n, p = q.take n
  | 0 => by simp [foldTo]
  | k + 1 => by
    unfold foldTo
    split
    · rename_i g
      rw [List.pairwise_append]
      refine ⟨foldTo_pair s k, by simp, fun p hp q hq => ?_⟩
      simp only [List.mem_singleton] at hq
      subst hq
      obtain ⟨j, h1, h2, rfl⟩ := foldTo_mem s k p hp
      have hk : k < s.length := by
        rcases Nat.lt_or_ge k s.length with h | h
        · exact h
        · rw [List.getElem?_eq_none h] at g; cases g
      refine ⟨by simp; omega, j + 1, ?_⟩
      rw [List.take_take, Nat.min_eq_left (by omega)]
    · exact foldTo_pair s k

/-! ### tags in order -/
def ins (x : Bs) : List Bs → List Bs
  | [] => [x]
  | y :: r => if y < x then y :: ins x r else if y = x then y :: r else x :: y :: r
def Sorted (l : List Bs) : Prop := l.Pairwise (· < ·)
theorem mem_ins (x z : Bs) (l : List Bs) : z ∈ ins x l ↔ z = x ∨ z ∈ l := by
  induction l with
  | nil => simp [ins]
  | cons y r ih =>
    unfold ins
    split
    · simp only [List.mem_cons, ih]
      constructor
      · rintro (h | h | h) <;> simp [h]
      · rintro (h | h | h) <;> simp [h]
    · split
      · rename_i h; subst h; simp
      · simp
theorem lt_of {x y : Bs} (h1 : ¬ y < x) (h2 : ¬ y = x) : x < y := by
  rcases List.le_total x y with h | h
  · rcases List.le_iff_lt_or_eq.1 h with h | h
    · exact h
    · exact absurd h.symm h2
  · rcases List.le_iff_lt_or_eq.1 h with h | h
    · exact absurd h h1
    · exact absurd h h2
theorem ins_sorted (x : Bs) (l : List Bs) (h : Sorted l) : Sorted (ins x l) := by
  induction l with
  | nil => simp [ins, Sorted]
  | cons y r ih =>
    have hr := List.pairwise_cons.1 h
    unfold ins
    split
    · rename_i hy
      refine List.pairwise_cons.2 ⟨fun z hz => ?_, ih hr.2⟩
      rcases (mem_ins x z r).1 hz with rfl | hz
      · exact hy
      · exact hr.1 z hz
    · split
      · exact h
      · rename_i h1 h2
        have hxy := lt_of h1 h2
        refine List.pairwise_cons.2 ⟨fun z hz => ?_, h⟩
        rcases List.mem_cons.1 hz with rfl | hz
        · exact hxy
        · exact List.lt_trans hxy (hr.1 z hz)
def tagsL (l : List Bs) : List Bs := l.foldl (fun acc x => ins x acc) []
theorem tagsL_snoc (l : List Bs) (x : Bs) : tagsL (l ++ [x]) = ins x (tagsL l) := by simp [tagsL]
theorem tags_sorted_aux (l acc : List Bs) (h : Sorted acc) : Sorted (l.foldl (fun acc x => ins x acc) acc) := by
  induction l generalizing acc with
  | nil => exact h
  | cons x r ih => exact ih _ (ins_sorted x acc h)
theorem tags_sorted (l : List Bs) : Sorted (tagsL l) := tags_sorted_aux l [] (by simp [Sorted])
theorem mem_tags_aux (l acc : List Bs) (z : Bs) : z ∈ l.foldl (fun acc x => ins x acc) acc ↔ z ∈ l ∨ z ∈ acc := by
  induction l generalizing acc with
  | nil => simp
  | cons x r ih =>
    rw [List.foldl_cons, ih, mem_ins]
    simp only [List.mem_cons]
    constructor
    · rintro (h | h | h) <;> simp [h]
    · rintro ((h | h) | h) <;> simp [h]
theorem mem_tags (l : List Bs) (z : Bs) : z ∈ tagsL l ↔ z ∈ l := by unfold tagsL; rw [mem_tags_aux]; simp
theorem sorted_ext : ∀ (a b : List Bs), Sorted a → Sorted b → (∀ z, z ∈ a ↔ z ∈ b) → a = b
  | [], [], _, _, _ => rfl
  | [], y :: r, _, _, h => by have := (h y).2 (by simp); simp at this
  | x :: r, [], _, _, h => by have := (h x).1 (by simp); simp at this
  | x :: r, y :: q, ha, hb, h => by
    have h1 := List.pairwise_cons.1 ha
    have h2 := List.pairwise_cons.1 hb
    have e : x = y := by
      rcases List.mem_cons.1 ((h x).1 (by simp)) with e | e
      · exact e
      · rcases List.mem_cons.1 ((h y).2 (by simp)) with e' | e'
        · exact e'.symm
        · exact absurd (List.lt_trans (h1.1 y e') (h2.1 x e)) (List.lt_irrefl x)
    subst e
    rw [sorted_ext r q h1.2 h2.2 fun z => ?_]
    have hz := h z
    simp only [List.mem_cons] at hz
    constructor
    · intro hr
      rcases hz.1 (Or.inr hr) with e | e
      · subst e; exact absurd (h1.1 z hr) (List.lt_irrefl z)
      · exact e
    · intro hq
      rcases hz.2 (Or.inr hq) with e | e
      · subst e; exact absurd (h2.1 z hq) (List.lt_irrefl z)
      · exact e
theorem tags_of_sorted (l : List Bs) (h : Sorted l) : tagsL l = l := sorted_ext _ _ (tags_sorted l) h (mem_tags l)
theorem merge_tags (ss l : List Bs) (hn : ss.Nodup) (hm : ∀ z, z ∈ ss ↔ z ∈ l) : ss.mergeSort (fun x y => decide (x ≤ y)) = tagsL l := by
  have tr : ∀ a b c : Bs, decide (a ≤ b) = true → decide (b ≤ c) = true → decide (a ≤ c) = true := fun a b c h1 h2 => by simp only [decide_eq_true_eq] at *; exact List.le_trans h1 h2
  have to : ∀ a b : Bs, (decide (a ≤ b) || decide (b ≤ a)) = true := fun a b => by simp only [Bool.or_eq_true, decide_eq_true_eq]; exact List.le_total a b
  have hp := List.mergeSort_perm ss (fun x y => decide (x ≤ y))
  refine sorted_ext _ _ ?_ (tags_sorted l) fun z => by rw [hp.mem_iff, hm, mem_tags]
  have hs := List.pairwise_mergeSort tr to ss
  have hd : (ss.mergeSort fun x y => decide (x ≤ y)).Pairwise (· ≠ ·) := hp.symm.nodup hn
  refine (hs.and hd).imp_of_mem fun {a b} _ _ hab => ?_
  obtain ⟨h1, h2⟩ := hab
  simp only [decide_eq_true_eq] at h1
  rcases List.le_iff_lt_or_eq.1 h1 with h | h
  · exact h
  · exact absurd h h2
theorem ins_len (x : Bs) (l : List Bs) : (ins x l).length ≤ l.length + 1 := by
  induction l with
  | nil => simp [ins]
  | cons y r ih => unfold ins; split; · simp; omega
                   · split <;> simp
theorem tags_len_aux (l acc : List Bs) : (l.foldl (fun acc x => ins x acc) acc).length ≤ acc.length + l.length := by
  induction l generalizing acc with
  | nil => simp
  | cons x r ih => have := ih (ins x acc); have := ins_len x acc; simp only [List.foldl_cons, List.length_cons]; omega
theorem tags_len_le (l : List Bs) : (tagsL l).length ≤ l.length := by have := tags_len_aux l []; simpa [tagsL] using this
def validTagL (s : Bs) : Bool := decide (1 ≤ s.length ∧ s.length ≤ 64)
def tagsE (l : List Bs) : Int := if l.all validTagL then (if 16 < (tagsL l).length then 5 else 0) else 2
def tagsV (l : List Bs) : List Bs := if tagsE l = 0 then tagsL l else []
theorem tags_again (l : List Bs) (h : tagsE l = 0) : tagsE (tagsV l) = 0 ∧ tagsV (tagsV l) = tagsV l := by
  have hv : tagsV l = tagsL l := by unfold tagsV; rw [if_pos h]
  have ht := tags_of_sorted _ (tags_sorted l)
  have he : tagsE (tagsL l) = 0 := by
    unfold tagsE at *
    rw [ht]
    split at h
    · rename_i ha
      have : (tagsL l).all validTagL = true := by
        rw [List.all_eq_true] at *; intro x hx; exact ha x ((mem_tags l x).1 hx)
      rw [if_pos this]; exact h
    · cases h
  rw [hv]
  exact ⟨he, by unfold tagsV; rw [if_pos he, ht]⟩
end Go.Proofs.YtjieiakgikhofaaDoor.Kt
