/- Proves plain facts on a table of names with its chains and its free numbers: what it is to be such a table, and how it changes when a name is added or forgotten. Conditions: as each theorem names them. -/
import Derived.Test.YtmhbfplpodikiaaAi
import Derived.Test.YtmhbfplpodikiaaHm
import Derived.Test.YtmhbfplpodikiaaIna
namespace Go.Proofs.Ytmhbfplpodikiaa.Inb
open Go.RowKit Aa Ai Hm Ina

/-- Where a name's chain begins among n heads. -/
def bkt (sd : Int) (n : Nat) (k : ByteArray) : Nat := (idxI (mixI (sumL sd k.data.toList)) (n : Int)).toNat
theorem bkt_lt (sd : Int) {n : Nat} (h : isPow (n : Int) = true) (k : ByteArray) : bkt sd n k < n ∧ idxI (mixI (sumL sd k.data.toList)) (n : Int) = (bkt sd n k : Int) := by
  obtain ⟨h1, _⟩ := isPow_bd _ h
  have e : idxI (mixI (sumL sd k.data.toList)) (n : Int) = mixI (sumL sd k.data.toList) % (n : Int) := by unfold idxI; rw [if_pos h]
  have h2 : 0 ≤ mixI (sumL sd k.data.toList) % (n : Int) := Int.emod_nonneg _ (by omega)
  have h3 : mixI (sumL sd k.data.toList) % (n : Int) < n := Int.emod_lt_of_pos _ (by omega)
  unfold bkt
  rw [e]
  omega
def nk (l : List Nr) (i : Nat) : ByteArray := (l.getD i zeroN).k
/-- A number has a name. -/
def lv (l : List Nr) (i : Nat) : Prop := i < l.length ∧ 0 < (l.getD i zeroN).r
instance (l : List Nr) (i : Nat) : Decidable (lv l i) := inferInstanceAs (Decidable (_ ∧ _))
theorem getD_at {l : List Nr} {i : Nat} (h : i < l.length) : l.getD i zeroN = l[i] := by rw [List.getD_eq_getElem?_getD, List.getElem?_eq_getElem h]; rfl
theorem lv_at {l : List Nr} {i : Nat} (h : i < l.length) : lv l i ↔ 0 < l[i].r := by unfold lv; rw [getD_at h]; exact ⟨fun q => q.2, fun q => ⟨h, q⟩⟩
theorem nk_at {l : List Nr} {i : Nat} (h : i < l.length) : nk l i = l[i].k := by unfold nk; rw [getD_at h]
/-- The numbers without names, in order. -/
def frees (l : List Nr) : List Nat := (List.range l.length).filter fun i => !decide (lv l i)
theorem mem_frees {l : List Nr} {i : Nat} : i ∈ frees l ↔ i < l.length ∧ ¬ lv l i := by unfold frees; simp [List.mem_filter]
theorem frees_sorted (l : List Nr) : (frees l).Pairwise (· < ·) := List.pairwise_lt_range.filter _
theorem sorted_ext : ∀ {a b : List Nat}, a.Pairwise (· < ·) → b.Pairwise (· < ·) → (∀ i, i ∈ a ↔ i ∈ b) → a = b
  | [], [], _, _, _ => rfl
  | [], y :: b, _, _, h => by have := (h y).2 (by simp); cases this
  | x :: a, [], _, _, h => by have := (h x).1 (by simp); cases this
  | x :: a, y :: b, ha, hb, h => by
    have ha' := List.pairwise_cons.1 ha
    have hb' := List.pairwise_cons.1 hb
    have e : x = y := by
      rcases List.mem_cons.1 ((h x).1 (by simp)) with q | q
      · exact q
      · rcases List.mem_cons.1 ((h y).2 (by simp)) with r | r
        · exact r.symm
        · have := ha'.1 y r; have := hb'.1 x q; omega
    subst e
    rw [sorted_ext ha'.2 hb'.2 (fun i => ?_)]
    constructor
    · intro q
      rcases List.mem_cons.1 ((h i).1 (List.mem_cons_of_mem _ q)) with r | r
      · have := ha'.1 i q; omega
      · exact r
    · intro q
      rcases List.mem_cons.1 ((h i).2 (List.mem_cons_of_mem _ q)) with r | r
      · have := hb'.1 i q; omega
      · exact r
theorem frees_len (l : List Nr) : (frees l).length + cnt l = l.length := by
  have h : ∀ n, n ≤ l.length → ((List.range n).filter fun i => !decide (lv l i)).length + cnt (l.take n) = n := by
    intro n
    induction n with
    | zero => intro _; rfl
    | succ n ih =>
      intro hn
      have h1 := ih (by omega)
      rw [List.range_succ, List.filter_append, List.length_append, cnt_take (by omega)]
      by_cases q : 0 < l[n].r
      · have e : (List.filter (fun i => !decide (lv l i)) [n]) = [] := by simp [lv_at (show n < l.length by omega), q]
        rw [e, if_pos q]; simp; omega
      · have e : (List.filter (fun i => !decide (lv l i)) [n]) = [n] := by
          have : ¬ lv l n := by rw [lv_at (show n < l.length by omega)]; exact q
          simp [this]
        rw [e, if_neg q]; simp; omega
  have := h l.length (Nat.le_refl _)
  rwa [List.take_length] at this
/-- The lowest one of them. -/
theorem frees_low {l : List Nr} : (frees l = [] ∧ low l = l.length) ∨ (∃ r, frees l = low l :: r ∧ low l < l.length) := by
  rcases Nat.lt_or_ge (low l) l.length with h | h
  · right
    have hm : low l ∈ frees l := mem_frees.2 ⟨h, by rw [lv_at h]; exact low_no l h⟩
    cases hf : frees l with
    | nil => rw [hf] at hm; cases hm
    | cons x r =>
      have hs := frees_sorted l
      rw [hf] at hm hs
      rcases List.mem_cons.1 hm with q | q
      · exact ⟨r, by rw [q], h⟩
      · have h1 := (List.pairwise_cons.1 hs).1 _ q
        have hx : x ∈ frees l := by rw [hf]; simp
        obtain ⟨h2, h3⟩ := mem_frees.1 hx
        exact absurd ((lv_at h2).2 (low_has l x h2 h1)) h3
  · left
    have e : low l = l.length := by have := low_le l; omega
    refine ⟨?_, e⟩
    cases hf : frees l with
    | nil => rfl
    | cons x r =>
      have hx : x ∈ frees l := by rw [hf]; simp
      obtain ⟨h2, h3⟩ := mem_frees.1 hx
      exact absurd ((lv_at h2).2 (low_has l x h2 (by omega))) h3
/-- A table of names: its chains are right. -/
structure Tb (sd : Int) (l : List Nr) (s : Sc) : Prop where
  iv : Iv l
  rf : ∀ x ∈ l, 0 ≤ x.r ∧ x.r ≤ 2147483647
  len : s.nx.length = l.length
  pw : isPow (s.hd.length : Int) = true
  le : l.length ≤ s.hd.length
  mx : s.hd.length ≤ 65536
  ch : Chs s (fun i => bkt sd s.hd.length (nk l i)) (lv l)
theorem getD_set_n {l : List Nr} {n : Nat} (h : n < l.length) (x : Nr) (i : Nat) : (l.set n x).getD i zeroN = if i = n then x else l.getD i zeroN := by
  rw [List.getD_eq_getElem?_getD, List.getD_eq_getElem?_getD]
  by_cases q : i = n
  · subst q; simp [h]
  · rw [if_neg q, List.getElem?_set_ne (fun e => q e.symm)]
theorem getD_snoc (l : List Nr) (x : Nr) (i : Nat) : (l ++ [x]).getD i zeroN = if i = l.length then x else l.getD i zeroN := by
  rw [List.getD_eq_getElem?_getD, List.getD_eq_getElem?_getD]
  by_cases q : i = l.length
  · subst q; simp
  · rw [if_neg q]
    rcases Nat.lt_or_ge i l.length with h | h
    · rw [List.getElem?_append_left h]
    · rw [List.getElem?_eq_none (by simp; omega), List.getElem?_eq_none h]
theorem putAt_getD {l : List Nr} {n : Nat} (h : n ≤ l.length) (x : Nr) (i : Nat) : (putAt l n x).getD i zeroN = if i = n then x else l.getD i zeroN := by
  unfold putAt
  split
  · rename_i q; exact getD_set_n q x i
  · rw [show n = l.length by omega]; exact getD_snoc l x i
theorem putAt_length {l : List Nr} {n : Nat} (_h : n ≤ l.length) (x : Nr) : (putAt l n x).length = if n < l.length then l.length else l.length + 1 := by
  unfold putAt; split <;> simp
theorem putAt_lt {l : List Nr} {n : Nat} (h : n ≤ l.length) (x : Nr) : n < (putAt l n x).length := by
  rw [putAt_length h]; split <;> omega
theorem lv_put {l : List Nr} {n : Nat} (h : n ≤ l.length) {x : Nr} (hx : 0 < x.r) (i : Nat) : lv (putAt l n x) i ↔ lv l i ∨ i = n := by
  unfold lv
  rw [putAt_getD h, putAt_length h]
  by_cases q : i = n
  · subst q; rw [if_pos rfl]; constructor
    · exact fun _ => Or.inr rfl
    · intro _; refine ⟨?_, hx⟩; split <;> omega
  · rw [if_neg q]; constructor
    · rintro ⟨h1, h2⟩
      refine Or.inl ⟨?_, h2⟩
      split at h1
      · exact h1
      · rcases Nat.lt_or_ge i l.length with h3 | h3
        · exact h3
        · omega
    · rintro (⟨h1, h2⟩ | e)
      · exact ⟨by split <;> omega, h2⟩
      · exact absurd e q
theorem nk_put {l : List Nr} {n : Nat} (h : n ≤ l.length) (x : Nr) (i : Nat) (hi : i ≠ n) : nk (putAt l n x) i = nk l i := by unfold nk; rw [putAt_getD h, if_neg hi]
theorem nk_put_same {l : List Nr} {n : Nat} (h : n ≤ l.length) (x : Nr) : nk (putAt l n x) n = x.k := by unfold nk; rw [putAt_getD h, if_pos rfl]
/-- The numbers that are free when the lowest one has been given. -/
theorem frees_put {l : List Nr} {x : Nr} (hx : 0 < x.r) : frees (putAt l (low l) x) = (frees l).tail := by
  have hle := low_le l
  refine sorted_ext (frees_sorted _) ((frees_sorted l).tail) (fun i => ?_)
  rw [mem_frees, lv_put hle hx, putAt_length hle]
  rcases frees_low (l := l) with ⟨h1, h2⟩ | ⟨r, h1, h2⟩
  · rw [h1, if_neg (by omega)]
    constructor
    · rintro ⟨q1, q2⟩
      have q3 : i < l.length := by rcases Nat.lt_or_ge i l.length with q | q; exact q; exact absurd (Or.inr (by omega)) q2
      have : i ∈ frees l := mem_frees.2 ⟨q3, fun q => q2 (Or.inl q)⟩
      rw [h1] at this; cases this
    · intro q; cases q
  · have hs := frees_sorted l
    rw [if_pos h2, h1]
    rw [h1] at hs
    constructor
    · rintro ⟨q1, q2⟩
      have : i ∈ frees l := mem_frees.2 ⟨q1, fun q => q2 (Or.inl q)⟩
      rw [h1] at this
      rcases List.mem_cons.1 this with q | q
      · exact absurd (Or.inr q) q2
      · exact q
    · intro q
      have q' : i ∈ r := q
      have : i ∈ frees l := by rw [h1]; exact List.mem_cons_of_mem _ q'
      obtain ⟨g1, g2⟩ := mem_frees.1 this
      refine ⟨g1, ?_⟩
      rintro (g | g)
      · exact g2 g
      · have := (List.pairwise_cons.1 hs).1 i q'; omega
theorem lv_zero {l : List Nr} {n : Nat} (h : n < l.length) (i : Nat) : lv (l.set n zeroN) i ↔ lv l i ∧ i ≠ n := by
  unfold lv
  rw [getD_set_n h, List.length_set]
  by_cases q : i = n
  · subst q; rw [if_pos rfl]; simp [zeroN]
  · rw [if_neg q]; simp [q]
/-- The numbers that are free when one more is. -/
theorem frees_zero {l : List Nr} {n : Nat} (h : lv l n) {i : Nat} (hi : i ≤ (frees l).length) (h1 : ∀ j (hj : j < (frees l).length), j < i → (frees l)[j] < n) (h2 : ∀ j (hj : j < (frees l).length), i ≤ j → n ≤ (frees l)[j]) : frees (l.set n zeroN) = (frees l).take i ++ n :: (frees l).drop i := by
  have hs := frees_sorted l
  have hn : n ∉ frees l := fun q => (mem_frees.1 q).2 h
  have hlt : ∀ y ∈ (frees l).take i, y < n := fun y hy => by
    obtain ⟨j, hj, rfl⟩ := List.getElem_of_mem hy
    rw [List.getElem_take]
    rw [List.length_take] at hj
    exact h1 j (by omega) (by omega)
  have hgt : ∀ y ∈ (frees l).drop i, n < y := fun y hy => by
    obtain ⟨j, hj, rfl⟩ := List.getElem_of_mem hy
    rw [List.length_drop] at hj
    rw [List.getElem_drop]
    have q := h2 (i + j) (by omega) (by omega)
    have q2 : n ≠ (frees l)[i + j] := fun e => hn (e ▸ List.getElem_mem _)
    omega
  refine sorted_ext (frees_sorted _) ?_ (fun y => ?_)
  · rw [List.pairwise_append, List.pairwise_cons]
    refine ⟨hs.sublist (List.take_sublist ..), ⟨hgt, hs.sublist (List.drop_sublist ..)⟩, fun a ha b hb => ?_⟩
    rcases List.mem_cons.1 hb with q | q
    · rw [q]; exact hlt a ha
    · have := hlt a ha; have := hgt b q; omega
  · have e : y ∈ frees l ↔ y ∈ (frees l).take i ∨ y ∈ (frees l).drop i := by rw [← List.mem_append, List.take_append_drop]
    rw [mem_frees, List.length_set, lv_zero h.1, List.mem_append, List.mem_cons]
    constructor
    · rintro ⟨q1, q2⟩
      by_cases q3 : y = n
      · exact Or.inr (Or.inl q3)
      · have : y ∈ frees l := mem_frees.2 ⟨q1, fun q => q2 ⟨q, q3⟩⟩
        rcases e.1 this with q | q
        · exact Or.inl q
        · exact Or.inr (Or.inr q)
    · intro q
      by_cases q3 : y = n
      · exact ⟨by rw [q3]; exact h.1, fun w => w.2 q3⟩
      · have : y ∈ frees l := by
          rcases q with q | q | q
          · exact e.2 (Or.inl q)
          · exact absurd q q3
          · exact e.2 (Or.inr q)
        obtain ⟨g1, g2⟩ := mem_frees.1 this
        exact ⟨g1, fun w => g2 w.1⟩
theorem fnd_lv {l : List Nr} {k : ByteArray} : (∃ i, fnd l k = some i) ↔ ∃ i, lv l i ∧ nk l i = k := by
  constructor
  · rintro ⟨i, h⟩
    obtain ⟨hi, h1, h2⟩ := fnd_some h
    exact ⟨i, (lv_at hi).2 h1, by rw [nk_at hi]; exact h2⟩
  · rintro ⟨i, h1, h2⟩
    cases hf : fnd l k with
    | some j => exact ⟨j, rfl⟩
    | none =>
      have := fnd_none hf (l[i]'h1.1) (List.getElem_mem _) ((lv_at h1.1).1 h1)
      rw [nk_at h1.1] at h2
      exact absurd h2 this
/-- The chain of a name, and the place in it at which the name stands, or its end. -/
theorem Tb.chain {sd : Int} {l : List Nr} {s : Sc} (h : Tb sd l s) (k : ByteArray) : ∃ c, Ch s (bkt sd s.hd.length k) c ∧ (∀ i, i ∈ c ↔ lv l i ∧ bkt sd s.hd.length (nk l i) = bkt sd s.hd.length k) :=
  h.ch _ (bkt_lt sd h.pw k).1
/-- What the place says of the name. -/
theorem Tb.stop {sd : Int} {l : List Nr} {s : Sc} (h : Tb sd l s) {k : ByteArray} {c : List Nat} (hm : ∀ i, i ∈ c ↔ lv l i ∧ bkt sd s.hd.length (nk l i) = bkt sd s.hd.length k) {j : Nat} (hj : j ≤ c.length) (h1 : ∀ i (hi : i < c.length), i < j → nk l c[i] ≠ k) (h2 : ∀ hj : j < c.length, nk l c[j] = k) :
    (j = c.length ∧ fnd l k = none ∧ val c j = -1) ∨ (∃ hj : j < c.length, fnd l k = some c[j] ∧ val c j = (c[j] : Int) ∧ lv l c[j]) := by
  rcases Nat.lt_or_ge j c.length with q | q
  · right
    have hl := ((hm c[j]).1 (List.getElem_mem q)).1
    refine ⟨q, ?_, val_at q, hl⟩
    have := fnd_own h.iv hl.1 ((lv_at hl.1).1 hl)
    rw [← nk_at hl.1, h2 q] at this
    exact this
  · left
    have e : j = c.length := by omega
    refine ⟨e, ?_, val_end q⟩
    cases hf : fnd l k with
    | none => rfl
    | some i =>
      obtain ⟨hi, g1, g2⟩ := fnd_some hf
      have hc : i ∈ c := (hm i).2 ⟨(lv_at hi).2 g1, by rw [nk_at hi, g2]⟩
      obtain ⟨m, hm', e'⟩ := List.getElem_of_mem hc
      have := h1 m hm' (by omega)
      rw [e', nk_at hi] at this
      exact absurd g2 this
theorem rf_set {l : List Nr} (h : ∀ x ∈ l, 0 ≤ x.r ∧ x.r ≤ 2147483647) {n : Nat} {x : Nr} (hx : 0 ≤ x.r ∧ x.r ≤ 2147483647) : ∀ y ∈ l.set n x, 0 ≤ y.r ∧ y.r ≤ 2147483647 := fun y hy => by
  rcases List.mem_or_eq_of_mem_set hy with q | q
  · exact h y q
  · rw [q]; exact hx
/-- References of a name that is there change. -/
theorem Tb.count {sd : Int} {l : List Nr} {s : Sc} (h : Tb sd l s) {i : Nat} (hi : i < l.length) (hr : 0 < l[i].r) {r : Int} (h0 : 0 < r) (h1 : r ≤ 2147483647) : Tb sd (l.set i { l[i] with r := r }) s := by
  have hlv : ∀ j, lv (l.set i { l[i] with r := r }) j ↔ lv l j := fun j => by
    unfold lv
    rw [getD_set_n hi, List.length_set]
    by_cases q : j = i
    · subst q; rw [if_pos rfl, getD_at hi]; simp [h0, hr]
    · rw [if_neg q]
  have hnk : ∀ j, nk (l.set i { l[i] with r := r }) j = nk l j := fun j => by
    unfold nk
    rw [getD_set_n hi]
    by_cases q : j = i
    · subst q; rw [if_pos rfl, getD_at hi]
    · rw [if_neg q]
  refine ⟨iv_set h.iv (fun _ => h.iv.ok l[i] (List.getElem_mem hi) hr) (fun _ j hj hn hr' q => hn (h.iv.un j i hj hi hr' hr q)), rf_set h.rf ⟨by show 0 ≤ r; omega, h1⟩, by rw [List.length_set]; exact h.len, h.pw, by rw [List.length_set]; exact h.le, h.mx, ?_⟩
  refine (h.ch.other (s' := s) rfl (f' := fun j => bkt sd s.hd.length (nk (l.set i { l[i] with r := r }) j)) (fun j _ => by show bkt _ _ _ = bkt _ _ _; rw [hnk j]) (fun j _ q => ⟨q, rfl⟩)).iff (fun j => (hlv j).symm)
/-- A name is forgotten: its number is taken out of its chain at place j, and what follows it is whatever. -/
theorem Tb.forget {sd : Int} {l : List Nr} {s : Sc} (h : Tb sd l s) {n : Nat} (hn : lv l n) {c : List Nat} (h1 : Ch s (bkt sd s.hd.length (nk l n)) c) (h2 : ∀ i, i ∈ c ↔ lv l i ∧ bkt sd s.hd.length (nk l i) = bkt sd s.hd.length (nk l n)) {j : Nat} (hj : j < c.length) (hc : c[j] = n) (v : Int) :
    Tb sd (l.set n zeroN) ⟨(s.put (plc (bkt sd s.hd.length (nk l n)) c j) (s.nx.getD n 0)).hd, (s.put (plc (bkt sd s.hd.length (nk l n)) c j) (s.nx.getD n 0)).nx.set n v⟩ := by
  have hl : (s.put (plc (bkt sd s.hd.length (nk l n)) c j) (s.nx.getD n 0)).hd.length = s.hd.length := put_hd_len ..
  have hp := Chs.pop h.ch (bkt_lt sd h.pw (nk l n)).1 h1 h2 hj
  rw [hc] at hp
  refine ⟨iv_set h.iv (fun q => by simp [zeroN] at q) (fun q => by simp [zeroN] at q), rf_set h.rf ⟨Int.le_refl 0, by show (0 : Int) ≤ _; omega⟩, by rw [List.length_set, List.length_set, put_nx_len]; exact h.len, ?_, ?_, ?_, ?_⟩
  · show isPow (((s.put _ _).hd.length : Nat) : Int) = true
    rw [hl]; exact h.pw
  · show (l.set n zeroN).length ≤ (s.put _ _).hd.length
    rw [hl, List.length_set]; exact h.le
  · show (s.put _ _).hd.length ≤ 65536
    rw [hl]; exact h.mx
  · refine (hp.other (s' := ⟨(s.put (plc (bkt sd s.hd.length (nk l n)) c j) (s.nx.getD n 0)).hd, (s.put (plc (bkt sd s.hd.length (nk l n)) c j) (s.nx.getD n 0)).nx.set n v⟩) rfl (f' := fun i => bkt sd (s.put (plc (bkt sd s.hd.length (nk l n)) c j) (s.nx.getD n 0)).hd.length (nk (l.set n zeroN) i)) (fun i q => ?_) (fun i q q2 => ⟨?_, ?_⟩)).iff (fun i => (lv_zero hn.1 i).symm)
    · show bkt sd (s.put _ _).hd.length (nk (l.set n zeroN) i) = _
      rw [hl]
      have : nk (l.set n zeroN) i = nk l i := by unfold nk; rw [getD_set_n hn.1, if_neg q.2]
      rw [this]
    · show i < (List.set _ n v).length
      rw [List.length_set]; exact q2
    · show (List.set _ n v).getD i 0 = _
      exact getD_set_other (fun e => q.2 e.symm) v
/-- A new name has been put to a number that no name had, not yet in a chain. -/
structure Mid (sd : Int) (l : List Nr) (n : Nat) (s : Sc) : Prop where
  len : s.nx.length = l.length
  pw : isPow (s.hd.length : Int) = true
  lt : n < l.length
  lv : lv l n
  ch : Chs s (fun i => bkt sd s.hd.length (nk l i)) (fun i => Inb.lv l i ∧ i ≠ n)
theorem Mid.push {sd : Int} {l : List Nr} {n : Nat} {s : Sc} (h : Mid sd l n s) : Chs ⟨s.hd.set (bkt sd s.hd.length (nk l n)) (n : Int), s.nx.set n (s.hd.getD (bkt sd s.hd.length (nk l n)) 0)⟩ (fun i => bkt sd s.hd.length (nk l i)) (Inb.lv l) := by
  refine (Chs.push h.ch (n := n) (by have := h.len; have := h.lt; omega) (bkt_lt sd h.pw _).1 (fun q => q.2 rfl)).iff (fun i => ?_)
  constructor
  · rintro (q | q)
    · exact q.1
    · rw [q]; exact h.lv
  · intro q
    by_cases e : i = n
    · exact Or.inr e
    · exact Or.inl ⟨q, e⟩
theorem Tb.mid {sd : Int} {l : List Nr} {s : Sc} (h : Tb sd l s) {x : Nr} (hx : 0 < x.r) {nx' : List Int} (hn : nx'.length = (putAt l (low l) x).length) (he : ∀ i, i < s.nx.length → i ≠ low l → nx'.getD i 0 = s.nx.getD i 0) : Mid sd (putAt l (low l) x) (low l) ⟨s.hd, nx'⟩ := by
  have hle := low_le l
  have hno : ¬ lv l (low l) := fun q => low_no l q.1 ((lv_at q.1).1 q)
  refine ⟨hn, h.pw, putAt_lt hle x, (lv_put hle hx _).2 (Or.inr rfl), ?_⟩
  refine (h.ch.other (s' := ⟨s.hd, nx'⟩) rfl (f' := fun i => bkt sd s.hd.length (nk (putAt l (low l) x) i)) (fun i q => ?_) (fun i q q2 => ?_)).iff (fun i => ?_)
  · show bkt _ _ _ = bkt _ _ _
    rw [nk_put hle x i (fun e => hno (e ▸ q))]
  · refine ⟨?_, he i q2 (fun e => hno (e ▸ q))⟩
    show i < nx'.length
    rw [hn]
    have := h.len
    rw [putAt_length hle]
    split <;> omega
  · rw [lv_put hle hx]
    constructor
    · exact fun q => ⟨Or.inl q, fun e => hno (e ▸ q)⟩
    · rintro ⟨q | q, q2⟩
      · exact q
      · exact absurd q q2
theorem cnt_put {l : List Nr} {x : Nr} (hx : 0 < x.r) : cnt (putAt l (low l) x) = cnt l + 1 := by
  have h1 := frees_len (putAt l (low l) x)
  have h2 := frees_len l
  rw [frees_put hx, putAt_length (low_le l)] at h1
  rcases frees_low (l := l) with ⟨g1, g2⟩ | ⟨r, g1, g2⟩
  · rw [g1] at h1 h2; rw [if_neg (by omega)] at h1; simp at h1 h2; omega
  · rw [g1] at h1 h2; rw [if_pos g2] at h1; simp at h1 h2; omega
/-- Behind a new name with enough heads. -/
theorem Tb.put {sd : Int} {l : List Nr} {s : Sc} (h : Tb sd l s) {k : ByteArray} (hk : okN k) (hf : fnd l k = none) (hc : cnt (putAt l (low l) ⟨k, 1⟩) ≤ s.hd.length) {s' : Sc} (hh : s'.hd.length = s.hd.length) (hn : s'.nx.length = (putAt l (low l) ⟨k, 1⟩).length) (hs : Chs s' (fun i => bkt sd s.hd.length (nk (putAt l (low l) ⟨k, 1⟩) i)) (lv (putAt l (low l) ⟨k, 1⟩))) : Tb sd (putAt l (low l) ⟨k, 1⟩) s' := by
  have hle := low_le l
  have hv : Iv (putAt l (low l) ⟨k, 1⟩) := by
    unfold putAt
    split
    · exact iv_set h.iv (fun _ => hk) (fun _ j hj _ hr => fnd_none hf _ (List.getElem_mem hj) hr)
    · exact iv_snoc h.iv (fun _ => hk) (fun _ y hy hr => fnd_none hf y hy hr)
  have hr : ∀ x ∈ putAt l (low l) ⟨k, 1⟩, 0 ≤ x.r ∧ x.r ≤ 2147483647 := by
    unfold putAt
    split
    · exact rf_set h.rf ⟨by show (0 : Int) ≤ 1; omega, by show (1 : Int) ≤ _; omega⟩
    · intro x hx
      rcases List.mem_append.1 hx with q | q
      · exact h.rf x q
      · rw [List.mem_singleton.1 q]; exact ⟨by show (0 : Int) ≤ 1; omega, by show (1 : Int) ≤ _; omega⟩
  refine ⟨hv, hr, hn, by rw [hh]; exact h.pw, ?_, by rw [hh]; exact h.mx, by rw [hh]; exact hs⟩
  rw [hh, putAt_length hle]
  split
  · exact h.le
  · rename_i q
    have h1 := frees_len l
    rcases frees_low (l := l) with ⟨g1, g2⟩ | ⟨r, g1, g2⟩
    · rw [g1] at h1; simp at h1
      rw [cnt_put (by show (0 : Int) < 1; omega)] at hc
      omega
    · omega
theorem put_iv {l : List Nr} (h : Iv l) {k : ByteArray} (hk : okN k) (hf : fnd l k = none) : Iv (putAt l (low l) ⟨k, 1⟩) := by
  unfold putAt
  split
  · exact iv_set h (fun _ => hk) (fun _ j hj _ hr => fnd_none hf _ (List.getElem_mem hj) hr)
  · exact iv_snoc h (fun _ => hk) (fun _ y hy hr => fnd_none hf y hy hr)
theorem put_rf {l : List Nr} (h : ∀ x ∈ l, 0 ≤ x.r ∧ x.r ≤ 2147483647) (k : ByteArray) : ∀ x ∈ putAt l (low l) ⟨k, 1⟩, 0 ≤ x.r ∧ x.r ≤ 2147483647 := by
  unfold putAt
  split
  · exact rf_set h ⟨by show (0 : Int) ≤ 1; omega, by show (1 : Int) ≤ _; omega⟩
  · intro x hx
    rcases List.mem_append.1 hx with q | q
    · exact h x q
    · rw [List.mem_singleton.1 q]; exact ⟨by show (0 : Int) ≤ 1; omega, by show (1 : Int) ≤ _; omega⟩
/-- With more names than heads each number has a name. -/
theorem all_live {l : List Nr} {N : Nat} (hl : l.length ≤ N + 1) (hc : N < cnt l) : ∀ i, i < l.length → lv l i := by
  intro i hi
  have h1 := frees_len l
  have h2 := cnt_le l
  have h3 : frees l = [] := List.eq_nil_of_length_eq_zero (by omega)
  cases Decidable.em (lv l i) with
  | inl q => exact q
  | inr q => have := mem_frees.2 ⟨hi, q⟩; rw [h3] at this; cases this
theorem isPow_dbl {n : Nat} (h : isPow (n : Int) = true) (hn : n ≤ 65536) : isPow ((2 * n : Nat) : Int) = true := by
  obtain ⟨k, hk, e⟩ := (isPow_iff _).1 h
  have hk' : k ≤ 16 := by
    rcases Nat.lt_or_ge 16 k with q | q
    · have := pw_le (show 17 ≤ k by omega)
      have e17 : pw 17 = 131072 := by decide
      omega
    · exact q
  exact (isPow_iff _).2 ⟨k + 1, by omega, by rw [pw_succ, ← e]; omega⟩
theorem half_pow {n : Nat} (h : isPow (n : Int) = true) (hn : n < 65536) : n ≤ 32768 := by
  obtain ⟨k, hk, e⟩ := (isPow_iff _).1 h
  rcases Nat.lt_or_ge 15 k with q | q
  · have := pw_le (show 16 ≤ k by omega)
    have e16 : pw 16 = 65536 := by decide
    omega
  · have := pw_le (show k ≤ 15 by omega)
    have e15 : pw 15 = 32768 := by decide
    omega
/-- Behind a new name with twice as many heads. -/
theorem Tb.grown {sd : Int} {l : List Nr} {s : Sc} (h : Tb sd l s) {k : ByteArray} (hk : okN k) (hf : fnd l k = none) (hc : s.hd.length < cnt (putAt l (low l) ⟨k, 1⟩)) (hN : s.hd.length ≤ 32768) {s' : Sc} (hh : s'.hd.length = 2 * s.hd.length) (hn : s'.nx.length = (putAt l (low l) ⟨k, 1⟩).length) (hs : Chs s' (fun i => bkt sd (2 * s.hd.length) (nk (putAt l (low l) ⟨k, 1⟩) i)) (fun i => i < (putAt l (low l) ⟨k, 1⟩).length)) : Tb sd (putAt l (low l) ⟨k, 1⟩) s' := by
  have h1 := (putAt_len l (low l) ⟨k, 1⟩).2
  have h2 := h.le
  have h3 := (isPow_bd _ h.pw).1
  refine ⟨put_iv h.iv hk hf, put_rf h.rf k, hn, by rw [hh]; exact isPow_dbl h.pw (by omega), by omega, by omega, ?_⟩
  rw [hh]
  exact hs.iff (fun i => ⟨fun q => all_live (by omega) hc i q, fun q => q.1⟩)
end Go.Proofs.Ytmhbfplpodikiaa.Inb
