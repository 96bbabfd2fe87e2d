/- Proves plain facts about lists of slots with deadlines in order: putting one in, taking one out, and what is due. No condition. -/
import Derived.Test.YtpalbccoiejmoaaYb
namespace Go.Proofs.Ytpalbccoiejmoaa.Yc
open Ya Yb

theorem tw_at {p : Td → Bool} : ∀ {l : List Td} {K : Nat}, K ≤ l.length → (∀ j (h : j < l.length), j < K → p l[j] = true) → (∀ h : K < l.length, p l[K] = false) → (l.takeWhile p).length = K
  | [], K, hK, _, _ => by simp at hK; simp [hK]
  | x :: r, 0, _, _, he => by
    have := he (by simp)
    simp only [List.getElem_cons_zero] at this
    simp [this]
  | x :: r, K + 1, hK, hb, he => by
    have h0 := hb 0 (by simp) (by omega)
    simp only [List.getElem_cons_zero] at h0
    rw [List.takeWhile_cons_of_pos h0]
    have := tw_at (p := p) (l := r) (K := K) (by simpa using hK) (fun j h hj => by have := hb (j + 1) (by simp; omega) (by omega); simpa using this) (fun h => by have := he (by simp; omega); simpa using this)
    simp [this]
theorem tw_le (p : Td → Bool) (l : List Td) : (l.takeWhile p).length ≤ l.length := (List.takeWhile_prefix p).length_le
theorem tw_take (p : Td → Bool) : ∀ l : List Td, l.take (l.takeWhile p).length = l.takeWhile p
  | [] => rfl
  | x :: r => by
    by_cases h : p x
    · rw [List.takeWhile_cons_of_pos h]; simp [tw_take p r]
    · rw [List.takeWhile_cons_of_neg h]; simp
theorem tw_drop (p : Td → Bool) : ∀ l : List Td, l.drop (l.takeWhile p).length = l.dropWhile p
  | [] => rfl
  | x :: r => by
    by_cases h : p x
    · rw [List.takeWhile_cons_of_pos h, List.dropWhile_cons_of_pos h]; simp [tw_drop p r]
    · rw [List.takeWhile_cons_of_neg h, List.dropWhile_cons_of_neg h]; simp
/-- Where one goes in. -/
def putK (l : List Td) (x : Td) : Nat := (l.takeWhile (fun y => decide (bf y x))).length
def ins (l : List Td) (x : Td) : List Td := l.take (putK l x) ++ x :: l.drop (putK l x)
theorem ins_nil (x : Td) : ins [] x = [x] := rfl
theorem ins_cons (y : Td) (r : List Td) (x : Td) : ins (y :: r) x = if bf y x then y :: ins r x else x :: y :: r := by
  unfold ins putK
  by_cases h : bf y x
  · rw [List.takeWhile_cons_of_pos (by simpa using h), if_pos h]; simp
  · rw [List.takeWhile_cons_of_neg (by simpa using h), if_neg h]; simp
theorem putK_le (l : List Td) (x : Td) : putK l x ≤ l.length := tw_le _ _
theorem ins_len (l : List Td) (x : Td) : (ins l x).length = l.length + 1 := by
  have := putK_le l x
  unfold ins; simp; omega
theorem mem_ins {x y : Td} : ∀ {l : List Td}, y ∈ ins l x ↔ y = x ∨ y ∈ l
  | [] => by rw [ins_nil]; simp
  | z :: r => by
    have := mem_ins (x := x) (y := y) (l := r)
    rw [ins_cons]
    split
    · simp only [List.mem_cons, this]
      constructor <;> (intro h; rcases h with h | h | h <;> simp [h])
    · simp
theorem ins_perm (x : Td) : ∀ l : List Td, (ins l x).Perm (x :: l)
  | [] => by rw [ins_nil]
  | z :: r => by
    rw [ins_cons]
    split
    · exact ((ins_perm x r).cons z).trans (List.Perm.swap x z r)
    · exact List.Perm.refl _
theorem ins_sorted {x : Td} : ∀ {l : List Td}, l.Pairwise bf → (∀ y ∈ l, y ≠ x) → (ins l x).Pairwise bf
  | [], _, _ => by rw [ins_nil]; simp
  | z :: r, h, hne => by
    obtain ⟨h1, h2⟩ := List.pairwise_cons.1 h
    rw [ins_cons]
    split
    · rename_i hz
      refine List.pairwise_cons.2 ⟨fun y hy => ?_, ins_sorted h2 (fun y hy => hne y (List.mem_cons_of_mem _ hy))⟩
      rcases mem_ins.1 hy with e | e
      · rw [e]; exact hz
      · exact h1 y e
    · rename_i hz
      have hxz : bf x z := by
        rcases bf_tot hz with e | e
        · exact absurd e (hne z (by simp))
        · exact e
      refine List.pairwise_cons.2 ⟨fun y hy => ?_, h⟩
      rcases List.mem_cons.1 hy with e | e
      · rw [e]; exact hxz
      · exact bf_trans hxz (h1 y e)
/-- Without a slot. -/
def wo (l : List Td) (n : Int) : List Td := l.filter (fun x => decide (x.1 ≠ n))
theorem mem_wo {l : List Td} {n : Int} {x : Td} : x ∈ wo l n ↔ x ∈ l ∧ x.1 ≠ n := by unfold wo; simp
theorem wo_none {l : List Td} {n : Int} (h : n ∉ ns l) : wo l n = l := by
  unfold wo; rw [List.filter_eq_self]; intro x hx; simp; intro e; exact h (mem_ns.2 ⟨x, hx, e⟩)
theorem wo_sub (l : List Td) (n : Int) : (wo l n).Sublist l := List.filter_sublist
theorem ns_sub {l m : List Td} (h : l.Sublist m) : (ns l).Sublist (ns m) := h.map _
theorem not_wo (l : List Td) (n : Int) : n ∉ ns (wo l n) := fun h => by
  obtain ⟨x, hx, e⟩ := mem_ns.1 h
  exact (mem_wo.1 hx).2 e
theorem erase_wo : ∀ {l : List Td} {n : Int} {k : Nat}, (ns l).Nodup → ∀ (hk : k < l.length), l[k].1 = n → l.take k ++ l.drop (k + 1) = wo l n
  | [], _, _, _, hk, _ => by simp at hk
  | x :: r, n, 0, hd, _, he => by
    obtain ⟨d1, d2⟩ := List.nodup_cons.1 (show (x.1 :: ns r).Nodup from hd)
    simp only [List.getElem_cons_zero] at he
    subst he
    have : wo (x :: r) x.1 = wo r x.1 := by unfold wo; simp
    rw [this, wo_none d1]; simp
  | x :: r, n, k + 1, hd, hk, he => by
    obtain ⟨d1, d2⟩ := List.nodup_cons.1 (show (x.1 :: ns r).Nodup from hd)
    have hk' : k < r.length := by simpa using hk
    have he' : r[k].1 = n := by simpa using he
    have ih := erase_wo d2 hk' he'
    have hx : x.1 ≠ n := fun e => d1 (by rw [e, ← he']; exact mem_ns.2 ⟨_, List.getElem_mem hk', rfl⟩)
    have : wo (x :: r) n = x :: wo r n := by unfold wo; simp [hx]
    rw [this, ← ih]; simp
theorem wo_len {l : List Td} {n : Int} (hd : (ns l).Nodup) (h : n ∈ ns l) : (wo l n).length + 1 = l.length := by
  obtain ⟨k, _, hk, he⟩ := kx_pos h
  rw [← erase_wo hd hk he]
  simp; omega
theorem wo_le (l : List Td) (n : Int) : (wo l n).length ≤ l.length := List.length_filter_le _ _
/-- A list of different slots with times, in order. -/
structure Srt (L : List Td) : Prop where
  pw : L.Pairwise bf
  nd : (ns L).Nodup
  sl : ∀ x ∈ L, Sl x.1
  tm : ∀ x ∈ L, Tm x.2
theorem Srt.nil : Srt [] := ⟨List.Pairwise.nil, List.Pairwise.nil, by simp, by simp⟩
theorem Srt.sub {L M : List Td} (h : Srt L) (hs : M.Sublist L) : Srt M :=
  ⟨h.pw.sublist hs, h.nd.sublist (ns_sub hs), fun x hx => h.sl x (hs.subset hx), fun x hx => h.tm x (hs.subset hx)⟩
theorem Srt.out {L : List Td} (h : Srt L) (n : Int) : Srt (wo L n) := h.sub (wo_sub L n)
theorem Srt.take {L : List Td} (h : Srt L) (k : Nat) : Srt (L.take k) := h.sub (List.take_sublist _ _)
theorem Srt.drop {L : List Td} (h : Srt L) (k : Nat) : Srt (L.drop k) := h.sub (List.drop_sublist _ _)
theorem Srt.insd {L : List Td} (h : Srt L) {n a : Int} (hn : n ∉ ns L) (hs : Sl n) (ht : Tm a) : Srt (ins L (n, a)) := by
  refine ⟨ins_sorted h.pw (fun y hy e => hn (mem_ns.2 ⟨y, hy, by rw [e]⟩)), ?_, fun x hx => ?_, fun x hx => ?_⟩
  · have : (ns (ins L (n, a))).Perm (n :: ns L) := (ins_perm (n, a) L).map _
    exact this.nodup_iff.2 (List.nodup_cons.2 ⟨hn, h.nd⟩)
  · rcases mem_ins.1 hx with e | e
    · rw [e]; exact hs
    · exact h.sl x e
  · rcases mem_ins.1 hx with e | e
    · rw [e]; exact ht
    · exact h.tm x e
theorem nd_int : ∀ (A B : List Int), A.Nodup → (∀ x ∈ A, x ∈ B) → A.length ≤ B.length
  | [], _, _, _ => Nat.zero_le _
  | a :: r, B, h, hs => by
    have ha := hs a (by simp)
    obtain ⟨h1, h2⟩ := List.nodup_cons.1 h
    have ih := nd_int r (B.erase a) h2 (fun x hx => (List.mem_erase_of_ne (fun e => h1 (by rw [← e]; exact hx))).2 (hs x (by simp [hx])))
    rw [List.length_erase_of_mem ha] at ih
    have := List.length_pos_of_mem ha
    simp only [List.length_cons]
    omega
theorem Srt.len {L : List Td} (h : Srt L) : L.length ≤ 1048576 := by
  have h1 := nd_int (ns L) ((List.range 1048576).map Int.ofNat) h.nd (fun x hx => by
    obtain ⟨y, hy, e⟩ := mem_ns.1 hx
    obtain ⟨h1, h2⟩ := h.sl y hy
    exact List.mem_map.2 ⟨x.toNat, List.mem_range.2 (by omega), by simp; omega⟩)
  rw [List.length_map, List.length_range, ns_len] at h1
  exact h1
/-- Two lists in order with the same members are the same. -/
theorem sorted_unique : ∀ {L M : List Td}, L.Pairwise bf → M.Pairwise bf → (∀ x, x ∈ L ↔ x ∈ M) → L = M
  | [], [], _, _, _ => rfl
  | [], y :: M, _, _, h => absurd ((h y).2 (by simp)) (by simp)
  | x :: L, [], _, _, h => absurd ((h x).1 (by simp)) (by simp)
  | x :: L, y :: M, h1, h2, h => by
    obtain ⟨a1, a2⟩ := List.pairwise_cons.1 h1
    obtain ⟨b1, b2⟩ := List.pairwise_cons.1 h2
    have hxy : x = y := by
      rcases List.mem_cons.1 ((h x).1 (by simp)) with e | e
      · exact e
      · rcases List.mem_cons.1 ((h y).2 (by simp)) with e' | e'
        · exact e'.symm
        · exact absurd (bf_trans (b1 x e) (a1 y e')) (bf_irr y)
    subst hxy
    rw [sorted_unique a2 b2 (fun z => ?_)]
    constructor
    · intro hz
      rcases List.mem_cons.1 ((h z).1 (List.mem_cons_of_mem _ hz)) with e | e
      · subst e; exact absurd (a1 z hz) (bf_irr z)
      · exact e
    · intro hz
      rcases List.mem_cons.1 ((h z).2 (List.mem_cons_of_mem _ hz)) with e | e
      · subst e; exact absurd (b1 z hz) (bf_irr z)
      · exact e
/-- What is due. -/
def dueK (l : List Td) (now : Int) : Nat := (l.takeWhile (fun y => decide (isDue y.2 now))).length
theorem dueK_le (l : List Td) (now : Int) : dueK l now ≤ l.length := tw_le _ _
theorem due_mono {x y : Td} {now : Int} (hy : Tm y.2) (h : bf x y) (hd : ¬ isDue x.2 now) : ¬ isDue y.2 now := by
  unfold isDue bf Tm at *
  omega
theorem due_take : ∀ {L : List Td} {now : Int}, Srt L → (∀ x ∈ L.take (dueK L now), isDue x.2 now) ∧ ∀ x ∈ L.drop (dueK L now), ¬ isDue x.2 now
  | [], now, _ => by simp
  | x :: r, now, h => by
    obtain ⟨p1, p2⟩ := List.pairwise_cons.1 h.pw
    have hr : Srt r := h.sub (List.sublist_cons_self _ _)
    obtain ⟨i1, i2⟩ := due_take (now := now) hr
    unfold dueK at i1 i2 ⊢
    by_cases hd : isDue x.2 now
    · rw [List.takeWhile_cons_of_pos (by simpa using hd)]
      simp only [List.length_cons, List.take_succ_cons, List.drop_succ_cons, List.mem_cons]
      exact ⟨fun y hy => hy.elim (fun e => e ▸ hd) (i1 y), i2⟩
    · rw [List.takeWhile_cons_of_neg (by simpa using hd)]
      simp only [List.length_nil, List.take_zero, List.not_mem_nil, false_imp_iff, implies_true, List.drop_zero, true_and, List.mem_cons]
      intro y hy
      rcases hy with e | e
      · rw [e]; exact hd
      · exact due_mono (hr.tm y e) (p1 y e) hd
/-- The answers. -/
def putT (l : List Td) (n a : Int) : List Td := if Sl n ∧ n ∉ ns l then ins l (n, a) else l
def putN (l : List Td) (n : Int) : Int := if ¬ Sl n then 2 else if n ∈ ns l then 11 else 0
def remT (l : List Td) (n : Int) : List Td := if Sl n ∧ n ∈ ns l then wo l n else l
def remN (l : List Td) (n : Int) : Int := if ¬ Sl n then 2 else if n ∈ ns l then 0 else 9
/-- The deadline of a slot. -/
def tmOf : List Td → Int → Int
  | [], _ => 0
  | x :: r, n => if x.1 = n then x.2 else tmOf r n
def remA (l : List Td) (n : Int) : Int := if Sl n ∧ n ∈ ns l then tmOf l n else 0
def movT (l : List Td) (n a : Int) : List Td := if Sl n ∧ n ∈ ns l then ins (wo l n) (n, a) else l
theorem tmOf_at : ∀ {l : List Td} {n : Int} {k : Nat}, (ns l).Nodup → ∀ (hk : k < l.length), l[k].1 = n → tmOf l n = l[k].2
  | [], _, _, _, hk, _ => by simp at hk
  | x :: r, n, 0, _, _, he => by
    simp only [List.getElem_cons_zero] at he
    show (if x.1 = n then x.2 else tmOf r n) = _
    rw [if_pos he]; rfl
  | x :: r, n, k + 1, hd, hk, he => by
    obtain ⟨d1, d2⟩ := List.nodup_cons.1 (show (x.1 :: ns r).Nodup from hd)
    have hk' : k < r.length := by simpa using hk
    have he' : r[k].1 = n := by simpa using he
    have hx : x.1 ≠ n := fun e => d1 (by rw [e, ← he']; exact mem_ns.2 ⟨_, List.getElem_mem hk', rfl⟩)
    show (if x.1 = n then x.2 else tmOf r n) = _
    rw [if_neg hx, tmOf_at d2 hk' he']; rfl
theorem Srt.put {L : List Td} (h : Srt L) (n : Int) {a : Int} (ht : Tm a) : Srt (putT L n a) := by
  unfold putT; split
  · rename_i hc; exact h.insd hc.2 hc.1 ht
  · exact h
theorem Srt.rem {L : List Td} (h : Srt L) (n : Int) : Srt (remT L n) := by
  unfold remT; split
  · exact h.out n
  · exact h
theorem Srt.mov {L : List Td} (h : Srt L) (n : Int) {a : Int} (ht : Tm a) : Srt (movT L n a) := by
  unfold movT; split
  · rename_i hc; exact (h.out n).insd (not_wo L n) hc.1 ht
  · exact h
theorem put_len (L : List Td) (n a : Int) : (putT L n a).length ≤ L.length + 1 := by
  unfold putT; split
  · rw [ins_len]; omega
  · omega
theorem rem_len (L : List Td) (n : Int) : (remT L n).length ≤ L.length := by
  unfold remT; split
  · exact wo_le L n
  · omega
theorem mov_len {L : List Td} (h : Srt L) (n a : Int) : (movT L n a).length ≤ L.length := by
  unfold movT; split
  · rename_i hc; rw [ins_len, wo_len h.nd hc.2]; omega
  · omega
end Go.Proofs.Ytpalbccoiejmoaa.Yc
