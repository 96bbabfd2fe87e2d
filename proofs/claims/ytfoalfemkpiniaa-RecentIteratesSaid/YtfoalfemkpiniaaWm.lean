/- Proves plain facts about a ring of numbers: two functions that lead from each number to the next one and to the one before, what becomes of them when a number is taken out or comes to the end, and what a map of ints says of a function. No condition. -/
import Derived.Test.YtfoalfemkpiniaaUk
namespace Go.Proofs.Ytfoalfemkpiniaa.Wm
open Go.RowKit Go.Maps Mi Nw Ua Uh Uk

/-- From x on, a leads to the numbers of l one after the other, and b back. -/
def Lk (a b : Int → Int) : Int → List Int → Prop
  | _, [] => True
  | x, y :: l => a x = y ∧ b y = x ∧ Lk a b y l
/-- The last one. -/
def lst (x : Int) : List Int → Int
  | [] => x
  | y :: l => lst y l
theorem lst_mem : ∀ (l : List Int) (x : Int), lst x l ∈ x :: l
  | [], x => by simp [lst]
  | y :: l, x => by
    have := lst_mem l y
    unfold lst
    exact List.mem_cons_of_mem _ this
theorem lst_snoc : ∀ (l : List Int) (x y : Int), lst x (l ++ [y]) = y
  | [], _, _ => rfl
  | z :: l, _, y => lst_snoc l z y
theorem lk_append {a b : Int → Int} : ∀ (l : List Int) (x : Int) (m : List Int), Lk a b x (l ++ m) ↔ Lk a b x l ∧ Lk a b (lst x l) m
  | [], x, m => by simp [Lk, lst]
  | y :: l, x, m => by
    have := lk_append (a := a) (b := b) l y m
    simp only [List.cons_append, Lk, lst, this]
    exact ⟨fun ⟨h1, h2, h3, h4⟩ => ⟨⟨h1, h2, h3⟩, h4⟩, fun ⟨⟨h1, h2, h3⟩, h4⟩ => ⟨h1, h2, h3, h4⟩⟩
theorem lk_congr {a b a' b' : Int → Int} : ∀ (l : List Int) (x : Int), Lk a b x l → (x :: l).Nodup → (∀ u ∈ x :: l, u ≠ lst x l → a' u = a u) → (∀ u ∈ l, b' u = b u) → Lk a' b' x l
  | [], _, _, _, _, _ => trivial
  | y :: l, x, h, hd, ha, hb => by
    obtain ⟨h1, h2, h3⟩ := h
    obtain ⟨d1, d2⟩ := List.nodup_cons.1 hd
    have hx : x ≠ lst x (y :: l) := fun e => d1 (by rw [e]; exact lst_mem l y)
    refine ⟨by rw [ha x (by simp) hx]; exact h1, by rw [hb y (by simp)]; exact h2, lk_congr l y h3 d2 (fun u hu hn => ha u (List.mem_cons_of_mem _ hu) hn) (fun u hu => hb u (List.mem_cons_of_mem _ hu))⟩
theorem lk_all {a b a' b' : Int → Int} : ∀ (l : List Int) (x : Int), Lk a b x l → (∀ u ∈ x :: l, a' u = a u) → (∀ u ∈ l, b' u = b u) → Lk a' b' x l
  | [], _, _, _, _ => trivial
  | y :: l, x, h, ha, hb => by
    obtain ⟨h1, h2, h3⟩ := h
    exact ⟨by rw [ha x (by simp)]; exact h1, by rw [hb y (by simp)]; exact h2, lk_all l y h3 (fun u hu => ha u (List.mem_cons_of_mem _ hu)) (fun u hu => hb u (List.mem_cons_of_mem _ hu))⟩
theorem lk_get {a b : Int → Int} : ∀ (l : List Int) (x : Int), Lk a b x l → ∀ k (hk : k < l.length), a ((x :: l)[k]'(by simp; omega)) = l[k] ∧ b l[k] = (x :: l)[k]'(by simp; omega)
  | [], _, _, _, hk => by simp at hk
  | y :: l, x, h, 0, _ => ⟨h.1, h.2.1⟩
  | y :: l, x, h, k + 1, hk => lk_get l y h.2.2 k (by simpa using hk)
/-- The ring of L, closed by -1. -/
def Ring (a b : Int → Int) (L : List Int) : Prop := Lk a b (-1) (L ++ [-1])
def upd (f : Int → Int) (n v : Int) : Int → Int := fun m => if m = n then v else f m
theorem upd_eq (f : Int → Int) (n v : Int) : upd f n v n = v := by simp [upd]
theorem upd_ne {f : Int → Int} {n v m : Int} (h : m ≠ n) : upd f n v m = f m := by simp [upd, h]
theorem ring_nil {a b : Int → Int} : Ring (upd a (-1) (-1)) (upd b (-1) (-1)) [] := ⟨upd_eq _ _ _, upd_eq _ _ _, trivial⟩
section
variable {a b : Int → Int} {L : List Int}
theorem Ring.last (h : Ring a b L) : b (-1) = lst (-1) L := by
  have := (lk_append (a := a) (b := b) L (-1) [-1]).1 h
  exact this.2.2.1
theorem Ring.push (h : Ring a b L) (hd : L.Nodup) (hm : (-1 : Int) ∉ L) {n : Int} (hn : n ∉ L) (hn1 : n ≠ -1) {p : Int} (hp : b (-1) = p) :
    Ring (upd (upd a p n) n (-1)) (upd (upd b n p) (-1) n) (L ++ [n]) ∧ p ∈ -1 :: L := by
  have e := h.last
  rw [hp] at e
  subst e
  have hpm := lst_mem L (-1)
  refine ⟨?_, hpm⟩
  have hpn : lst (-1) L ≠ n := fun e => by
    rw [e] at hpm
    rcases List.mem_cons.1 hpm with h1 | h1
    · exact hn1 h1
    · exact hn h1
  unfold Ring at h ⊢
  rw [List.append_assoc]
  refine (lk_append L (-1) _).2 ⟨lk_congr L (-1) ((lk_append L (-1) _).1 h).1 (List.nodup_cons.2 ⟨hm, hd⟩) (fun u hu hun => ?_) (fun u hu => ?_), ?_, ?_, ?_, ?_, trivial⟩
  · have : u ≠ n := fun e => by
      subst e
      rcases List.mem_cons.1 hu with h1 | h1
      · exact hn1 h1
      · exact hn h1
    rw [upd_ne this, upd_ne hun]
  · have h1 : u ≠ n := fun e => hn (e ▸ hu)
    have h2 : u ≠ -1 := fun e => hm (e ▸ hu)
    rw [upd_ne h2, upd_ne h1]
  · rw [upd_ne hpn, upd_eq]
  · rw [upd_ne hn1, upd_eq]
  · exact upd_eq _ _ _
  · exact upd_eq _ _ _
theorem wo_split {n : Int} (hd : L.Nodup) (h : n ∈ L) : ∃ L1 L2, L = L1 ++ n :: L2 ∧ wo L n = L1 ++ L2 ∧ n ∉ L1 ∧ n ∉ L2 := by
  obtain ⟨L1, L2, e⟩ := List.append_of_mem h
  subst e
  obtain ⟨d1, d2, d3⟩ := List.nodup_append.1 hd
  have n1 : n ∉ L1 := fun hn => d3 n hn n (by simp) rfl
  have n2 : n ∉ L2 := (List.nodup_cons.1 d2).1
  refine ⟨L1, L2, rfl, ?_, n1, n2⟩
  have h1 : wo (L1 ++ n :: L2) n = wo L1 n ++ wo (n :: L2) n := by unfold wo; exact List.filter_append _ _
  have h2 : wo (n :: L2) n = wo L2 n := by unfold wo; simp
  rw [h1, h2, wo_none n1, wo_none n2]
theorem Ring.bridge (h : Ring a b L) (hd : L.Nodup) (hm : (-1 : Int) ∉ L) {n : Int} (hn : n ∈ L) {p s : Int} (hp : b n = p) (hs : a n = s) :
    Ring (upd a p s) (upd b s p) (wo L n) ∧ p ∈ -1 :: L ∧ s ∈ -1 :: L := by
  obtain ⟨L1, L2, rfl, e, n1, n2⟩ := wo_split hd hn
  rw [e]
  have hm1 : (-1 : Int) ∉ L1 := fun h => hm (by simp [h])
  have hm2 : (-1 : Int) ∉ L2 := fun h => hm (by simp [h])
  obtain ⟨d1, d2, d3⟩ := List.nodup_append.1 hd
  unfold Ring at h ⊢
  rw [List.append_assoc] at h
  obtain ⟨k1, k2, k3, k4⟩ := (lk_append L1 (-1) _).1 h
  change Lk a b n (L2 ++ [-1]) at k4
  have hpm := lst_mem L1 (-1)
  have e0 : lst (-1) L1 = p := by rw [← hp, k3]
  rw [e0] at hpm k2
  have hpm' : p ∈ -1 :: (L1 ++ n :: L2) := by
    rcases List.mem_cons.1 hpm with h1 | h1
    · rw [h1]; simp
    · exact List.mem_cons_of_mem _ (List.mem_append_left _ h1)
  obtain ⟨y, r, hy⟩ : ∃ y r, L2 ++ [-1] = y :: r := by
    cases L2 with
    | nil => exact ⟨_, _, rfl⟩
    | cons z t => exact ⟨_, _, rfl⟩
  rw [List.append_assoc, hy]
  rw [hy] at k4
  obtain ⟨k5, k6, k7⟩ := k4
  rw [hs] at k5
  subst k5
  have hsm : s ∈ L2 ++ [-1] := by rw [hy]; simp
  have hsm' : s ∈ -1 :: (L1 ++ n :: L2) := by
    rcases List.mem_append.1 hsm with h1 | h1
    · exact List.mem_cons_of_mem _ (List.mem_append_right _ (List.mem_cons_of_mem _ h1))
    · rw [List.mem_singleton.1 h1]; simp
  refine ⟨(lk_append L1 (-1) _).2 ⟨lk_congr L1 (-1) k1 (List.nodup_cons.2 ⟨hm1, d1⟩) (fun u hu hun => ?_) (fun u hu => ?_), ?_, ?_, ?_⟩, hpm', hsm'⟩
  · rw [e0] at hun; exact upd_ne hun
  · refine upd_ne fun e => ?_
    subst e
    rcases List.mem_append.1 hsm with h1 | h1
    · exact d3 u hu u (List.mem_cons_of_mem _ h1) rfl
    · exact hm1 (by rw [← List.mem_singleton.1 h1]; exact hu)
  · rw [e0]; exact upd_eq _ _ _
  · rw [e0]; exact upd_eq _ _ _
  · cases L2 with
    | nil =>
      simp only [List.nil_append, List.cons.injEq] at hy
      obtain ⟨_, rfl⟩ := hy
      trivial
    | cons z t =>
      simp only [List.cons_append, List.cons.injEq] at hy
      obtain ⟨rfl, rfl⟩ := hy
      have hz : z ∉ t := (List.nodup_cons.1 (List.nodup_cons.1 d2).2).1
      have key : ∀ u ∈ z :: t, upd a p z u = a u := fun u hu => upd_ne fun e => by
        subst e
        rcases List.mem_cons.1 hpm with h1 | h1
        · exact hm2 (by rw [← h1]; exact hu)
        · exact d3 u h1 u (List.mem_cons_of_mem _ hu) rfl
      obtain ⟨j1, j2, j3, _⟩ := (lk_append t z [-1]).1 k7
      refine (lk_append t z [-1]).2 ⟨lk_all t z j1 key (fun u hu => upd_ne fun e => hz (e ▸ hu)), ?_, ?_, trivial⟩
      · rw [key _ (lst_mem t z)]; exact j2
      · rw [upd_ne (fun e => hm2 (by rw [e]; simp))]; exact j3
/-- Where the ring goes on behind a number of L. -/
theorem Ring.next (h : Ring a b L) {k : Nat} (hk : k < L.length) : a L[k] = if hk1 : k + 1 < L.length then L[k + 1] else -1 := by
  have := (lk_get (L ++ [-1]) (-1) h (k + 1) (by simp; omega)).1
  rw [List.getElem_cons_succ] at this
  rw [List.getElem_append_left hk] at this
  rw [this]
  split
  · rename_i h1; exact List.getElem_append_left h1
  · rename_i h1
    rw [List.getElem_append_right (by omega)]
    simp
theorem Ring.first (h : Ring a b L) : a (-1) = L.headD (-1) := by
  cases L with
  | nil => exact h.1
  | cons x r => exact h.1
end
/-- A datum says f of all numbers in p, which are k. -/
structure Md (D : DataW Unit) (p : Int → Prop) (k : Nat) (f : Int → Int) : Prop where
  tidy : Tidy D
  mem : ∀ n, has D (kl n) = true ↔ p n
  val : ∀ n, p n → D.atKey (kl n) (.lit (.int .i64 0)) = .lit (.int .i64 (f n))
  sz : Maps.size D = k
section
variable {D : DataW Unit} {p : Int → Prop} {k : Nat} {f : Int → Int}
theorem md_nil : Md (.map []) (fun _ => False) 0 f := ⟨tidy_empty, fun n => by simp [has_eq], fun n h => h.elim, rfl⟩
theorem Md.put_raw (h : Md D p k f) (n v : Int) {k' : Nat} (hk : Maps.size (D.put (kl n) (.lit (.int .i64 v))) = k') : Md (D.put (kl n) (.lit (.int .i64 v))) (fun m => m = n ∨ p m) k' (upd f n v) := by
  obtain ⟨h1, h2, h3, h4⟩ := h
  refine ⟨h1.put (kl_key n) _, fun m => ?_, fun m hm => ?_, hk⟩
  · by_cases e : m = n
    · subst e; rw [has_put_same h1.isMap (kl_key m)]; simp
    · rw [has_put_other (fun h => e (kl_inj h)), h2]; simp [e]
  · by_cases e : m = n
    · subst e; rw [atKey_put_same h1.isMap (kl_key m), upd_eq]
    · rw [atKey_put_other (fun h => e (kl_inj h)), h3 m (hm.resolve_left e), upd_ne e]
theorem Md.put_old (h : Md D p k f) {n : Int} (hn : p n) (v : Int) : Md (D.put (kl n) (.lit (.int .i64 v))) p k (upd f n v) := by
  have hs : Maps.size (D.put (kl n) (.lit (.int .i64 v))) = k := by rw [size_put h.tidy, (h.mem n).2 hn, h.sz]; rfl
  obtain ⟨h1, h2, h3, h4⟩ := h.put_raw n v hs
  have e : ∀ m, (m = n ∨ p m) ↔ p m := fun m => ⟨fun h => h.elim (fun e => e ▸ hn) id, Or.inr⟩
  exact ⟨h1, fun m => (h2 m).trans (e m), fun m hm => h3 m (Or.inr hm), h4⟩
theorem Md.put_new (h : Md D p k f) {n : Int} (hn : ¬ p n) (v : Int) : Md (D.put (kl n) (.lit (.int .i64 v))) (fun m => m = n ∨ p m) (k + 1) (upd f n v) :=
  h.put_raw n v (by
    have : has D (kl n) = false := by cases e : has D (kl n) with
      | false => rfl
      | true => exact absurd ((h.mem n).1 e) hn
    rw [size_put h.tidy, this, h.sz]; rfl)
theorem Md.del (h : Md D p (k + 1) f) {n : Int} (hn : p n) : Md (D.del (kl n)) (fun m => p m ∧ m ≠ n) k f := by
  obtain ⟨h1, h2, h3, h4⟩ := h
  refine ⟨h1.del _, fun m => ?_, fun m hm => ?_, ?_⟩
  · by_cases e : m = n
    · subst e; rw [has_del_same]; simp
    · rw [has_del_other (fun h => e (kl_inj h)), h2]; simp [e]
  · rw [atKey_del_other (fun h => hm.2 (kl_inj h))]; exact h3 m hm.1
  · have := size_del (k := kl n) h1
    rw [h4, (h2 n).2 hn] at this
    simp at this; omega
theorem Md.ext (h : Md D p k f) {q : Int → Prop} {k' : Nat} {g : Int → Int} (hp : ∀ m, p m ↔ q m) (hk : k = k') (hf : ∀ m, q m → f m = g m) : Md D q k' g :=
  ⟨h.tidy, fun m => (h.mem m).trans (hp m), fun m hm => by rw [h.val m ((hp m).2 hm), hf m hm], h.sz.trans hk⟩
/-- What a look-up says. -/
theorem Md.no (h : Md D p k f) {n : Int} (hn : ¬ p n) : has D (kl n) = false ∧ D.atKey (kl n) (.lit (.int .i64 0)) = .lit (.int .i64 0) := by
  have : has D (kl n) = false := by cases e : has D (kl n) with
    | false => rfl
    | true => exact absurd ((h.mem n).1 e) hn
  exact ⟨this, atKey_of_not_has this _⟩
end
theorem nd_int : ∀ (A B : List Int), A.Nodup → (∀ x ∈ A, x ∈ B) → A.length ≤ B.length
  | [], _, _, _ => Nat.zero_le _
  | a :: r, B, h, hs => by
    have ha := hs a (by simp)
    obtain ⟨h1, h2⟩ := List.nodup_cons.1 h
    have ih := nd_int r (B.erase a) h2 (fun x hx => (List.mem_erase_of_ne (fun e => h1 (by rw [← e]; exact hx))).2 (hs x (by simp [hx])))
    rw [List.length_erase_of_mem ha] at ih
    have := List.length_pos_of_mem ha
    simp only [List.length_cons]
    omega
theorem slots_len {L : List Int} (hd : L.Nodup) (hs : ∀ n ∈ L, Sl n) : L.length ≤ 1048576 := by
  have h := nd_int L ((List.range 1048576).map Int.ofNat) hd (fun x hx => by
    obtain ⟨h1, h2⟩ := hs x hx
    exact List.mem_map.2 ⟨x.toNat, List.mem_range.2 (by omega), by simp; omega⟩)
  rw [List.length_map, List.length_range] at h
  exact h
end Go.Proofs.Ytfoalfemkpiniaa.Wm
