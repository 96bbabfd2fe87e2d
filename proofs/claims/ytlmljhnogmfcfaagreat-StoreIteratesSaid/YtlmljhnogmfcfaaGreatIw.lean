/- Proves words for what the store's Expire takes out: those that are due, in the order of their deadlines and keys, are the same whichever way they are sorted. No program. -/
import Derived.Test.YtlmljhnogmfcfaaGreatIs
import Derived.Test.YtlmljhnogmfcfaaGreatIp
namespace Go.Proofs.YtlmljhnogmfcfaaGreat.Iw
open Go.RowKit Ap Mi Nw Ea Eb Ec Ed Ee El Ia Ib Ic Ik Ie If Ig Is

theorem lt_neg {x y z : En} (h : ltE y x = false) (k : ltE z y = false) : ltE z x = false := by
 rw [Bool.eq_false_iff]
 intro e
 by_cases hx : ltE x y = true
 ·rw [ltE_trans e hx] at k; cases k
 ·obtain ⟨h1, h2⟩ := ltE_tot (Bool.eq_false_iff.2 hx) h
  unfold ltE at e k
  rw [h1, h2, k] at e
  cases e
theorem lt_asym {x y : En} (h : ltE x y = true) : ltE y x = false := by
 rw [Bool.eq_false_iff]
 intro e
 have h1 := ltE_trans h e
 rw [ltE_irr] at h1; cases h1
theorem ins_perm (x : En) : ∀ l : List En, (insE id x l).Perm (x :: l)
 | [] => List.Perm.refl _
 | y :: r => by
  unfold insE
  split
  ·exact ((ins_perm x r).cons y).trans (List.Perm.swap x y r)
  ·exact List.Perm.refl _
theorem ins_sorted (x : En) : ∀ l : List En, Sorted l → Sorted (insE id x l)
 | [], _ => List.pairwise_singleton _ _
 | y :: r, h => by
  obtain ⟨h1, h2⟩ := List.pairwise_cons.1 h
  unfold insE
  simp only [id]
  split
  ·rename_i e
   refine List.pairwise_cons.2 ⟨fun z hz => ?_, ins_sorted x r h2⟩
   rcases insE_mem hz with rfl | hz
   ·exact lt_asym e
   ·exact h1 z hz
  ·rename_i e
   have e' : ltE y x = false := Bool.eq_false_iff.2 e
   refine List.pairwise_cons.2 ⟨fun z hz => ?_, h⟩
   rcases List.mem_cons.1 hz with rfl | hz
   ·exact e'
   ·exact lt_neg e' (h1 z hz)
theorem fold_both : ∀ (m a : List En), Sorted a → Sorted (m.foldl (fun a x => insE id x a) a) ∧ (m.foldl (fun a x => insE id x a) a).Perm (m ++ a)
 | [], a, h => ⟨h, List.Perm.refl _⟩
 | x :: r, a, h => by
  obtain ⟨h1, h2⟩ := fold_both r (insE id x a) (ins_sorted x a h)
  refine ⟨h1, h2.trans ((List.Perm.append_left r (ins_perm x a)).trans ?_)⟩
  exact List.perm_middle
theorem expG_both (now : Int) (l : List En) : Sorted (expG id now l) ∧ (expG id now l).Perm (l.filter fun x => dueE x.d now) := by
 obtain ⟨h1, h2⟩ := fold_both (l.filter fun x => dueE x.d now) [] List.Pairwise.nil
 rw [List.append_nil] at h2
 exact ⟨h1, h2⟩
theorem one_order {a b m : List En} (ha : Sorted a) (hb : Sorted b) (pa : a.Perm m) (pb : b.Perm m) (hk : ∀ x ∈ m, ∀ y ∈ m, x.k = y.k → x = y) : a = b := by
 refine List.Perm.eq_of_pairwise (le := fun x y => ltE y x = false) (fun x y hx hy h1 h2 => ?_) ha hb (pa.trans pb.symm)
 exact hk x (pa.mem_iff.1 hx) y (pb.mem_iff.1 hy) (ltE_tot h2 h1).2
def left (ns : List Nat) (M : List Ya.Td) (J : Nat) : List Nat := ns.filter fun n => decide ((n : Int) ∉ (M.take J).map (·.1))
theorem left_zero (ns : List Nat) (M : List Ya.Td) : left ns M 0 = ns := by
 unfold left; rw [List.filter_eq_self]; intro n _; simp
theorem left_succ {ns : List Nat} {M : List Ya.Td} {J n : Nat} (hJ : J < M.length) (hn : M[J].1 = (n : Int)) : wn (left ns M J) n = left ns M (J + 1) := by
 unfold wn left
 rw [List.filter_filter]
 congr 1
 funext m
 rw [List.take_succ_eq_append_getElem hJ, List.map_append, List.map_cons, List.map_nil, hn]
 simp only [List.mem_append, List.mem_singleton, not_or, Int.natCast_inj]
 rw [Bool.eq_iff_iff]
 simp only [Bool.and_eq_true, decide_eq_true_eq]
 exact And.comm
theorem mem_left {ns : List Nat} {M : List Ya.Td} {J n : Nat} : n ∈ left ns M J ↔ n ∈ ns ∧ (n : Int) ∉ (M.take J).map (·.1) := by unfold left; simp
structure Due (ns : List Nat) (E : List Em) (now : Int) (M : List Ya.Td) : Prop where
 nd : (M.map (·.1)).Nodup
 of : ∀ x, x ∈ M ↔ ∃ n ∈ ns, dueE (en E n).d now = true ∧ x = ((n : Int), (en E n).d)
theorem Due.at_ {ns : List Nat} {E : List Em} {now : Int} {M : List Ya.Td} (h : Due ns E now M) {J : Nat} (hJ : J < M.length) : ∃ n, n ∈ left ns M J ∧ M[J] = ((n : Int), (en E n).d) := by
 obtain ⟨n, hn, _, hx⟩ := (h.of _).1 (List.getElem_mem hJ)
 refine ⟨n, mem_left.2 ⟨hn, fun hm => ?_⟩, hx⟩
 obtain ⟨y, hy, hy1⟩ := List.mem_map.1 hm
 obtain ⟨i, hi, rfl⟩ := List.getElem_of_mem hy
 have hi' : i < J := by simp at hi; omega
 rw [List.getElem_take] at hy1
 have h1 := List.getElem_inj (xs := M.map (·.1)) (i := i) (j := J) (h₀ := by simp; omega) (h₁ := by simpa using hJ) h.nd
 simp only [List.getElem_map] at h1
 have := h1.1 (by rw [hy1, hx])
 omega
theorem Due.rest {ns : List Nat} {E : List Em} {now : Int} {M : List Ya.Td} (h : Due ns E now M) : left ns M M.length = ns.filter fun n => ! dueE (en E n).d now := by
 unfold left
 rw [List.take_length]
 refine List.filter_congr fun n hn => ?_
 have h1 : (n : Int) ∈ M.map (·.1) ↔ dueE (en E n).d now = true := by
  constructor
  ·intro hm
   obtain ⟨x, hx, hx1⟩ := List.mem_map.1 hm
   obtain ⟨m, _, hd, rfl⟩ := (h.of x).1 hx
   have : m = n := by have h9 : (m : Int) = (n : Int) := hx1; omega
   rw [← this]; exact hd
  ·intro hd
   exact List.mem_map.2 ⟨_, (h.of _).2 ⟨n, hn, hd, rfl⟩, rfl⟩
 rw [Bool.eq_iff_iff]
 simp only [decide_eq_true_eq, Bool.not_eq_true', h1]
 simp
theorem Due.perm {ns : List Nat} {E : List Em} {now : Int} {M : List Ya.Td} (h : Due ns E now M) (hn : ns.Nodup) : (M.map fun x => x.1.toNat).Perm (ns.filter fun n => dueE (en E n).d now) := by
 refine (List.perm_ext_iff_of_nodup ?_ (hn.sublist List.filter_sublist)).2 fun n => ?_
 ·have h1 := h.nd
  unfold List.Nodup at h1 ⊢
  rw [List.pairwise_map] at h1 ⊢
  refine h1.imp_of_mem fun {a b} ha hb hne e => hne ?_
  obtain ⟨n, _, _, rfl⟩ := (h.of a).1 ha
  obtain ⟨m, _, _, rfl⟩ := (h.of b).1 hb
  simp only [Int.toNat_natCast] at e
  rw [e]
 ·constructor
  ·intro hm
   obtain ⟨x, hx, rfl⟩ := List.mem_map.1 hm
   obtain ⟨m, hm', hd, rfl⟩ := (h.of x).1 hx
   rw [Int.toNat_natCast]
   exact List.mem_filter.2 ⟨hm', hd⟩
  ·intro hm
   obtain ⟨hm', hd⟩ := List.mem_filter.1 hm
   exact List.mem_map.2 ⟨_, (h.of _).2 ⟨n, hm', hd, rfl⟩, Int.toNat_natCast n⟩
theorem due_of {cx cn : Int} {s : Sx} {ns : List Nat} {E : List Em} {a : Nm.St} {t : List (Tm.Cell Ta.Key)} {h : List Ya.Td} {k : Ja.Ac} (r : Rel (fun _ => True) cx cn s ns E a t h k) (hs : Yc.Srt h) (now : Int) :
  Due ns E now (h.take (Yc.dueK h now)) ∧ Rel (fun n => dueE (en E n).d now = false) cx cn s ns E a t (h.drop (Yc.dueK h now)) k := by
 obtain ⟨d1, d2⟩ := Yc.due_take (now := now) hs
 have hd : ∀ n, Yb.isDue (en E n).d now ↔ dueE (en E n).d now = true := fun n => by unfold Yb.isDue dueE; simp
 have hsp : ∀ x, x ∈ h ↔ x ∈ h.take (Yc.dueK h now) ∨ x ∈ h.drop (Yc.dueK h now) := fun x => by
  conv => lhs; rw [← List.take_append_drop (Yc.dueK h now) h]
  exact List.mem_append
 refine ⟨⟨?_, fun x => ⟨fun hx => ?_, fun hx => ?_⟩⟩, ⟨r.ok, r.l, r.nd, r.lt, r.le, r.al, r.am, r.tm, r.tc, fun x => ⟨fun hx => ?_, fun hx => ?_⟩, r.k, r.kx⟩⟩
 ·exact hs.nd.sublist ((List.take_sublist _ _).map _)
 ·obtain ⟨n, hn, _, rfl⟩ := (r.hm x).1 ((hsp x).2 (Or.inl hx))
  exact ⟨n, hn, (hd n).1 (d1 _ hx), rfl⟩
 ·obtain ⟨n, hn, h1, rfl⟩ := hx
  rcases (hsp _).1 ((r.hm _).2 ⟨n, hn, trivial, rfl⟩) with h2 | h2
  ·exact h2
  ·exact absurd ((hd n).2 h1) (d2 _ h2)
 ·obtain ⟨n, hn, _, rfl⟩ := (r.hm x).1 ((hsp x).2 (Or.inr hx))
  exact ⟨n, hn, Bool.eq_false_iff.2 fun e => d2 _ hx ((hd n).2 e), rfl⟩
 ·obtain ⟨n, hn, h1, rfl⟩ := hx
  rcases (hsp _).1 ((r.hm _).2 ⟨n, hn, trivial, rfl⟩) with h2 | h2
  ·have := (hd n).1 (d1 _ h2)
   rw [h1] at this; cases this
  ·exact h2
theorem exp_is {hs : Nat → Prop} {cx cn : Int} {s : Sx} {ns : List Nat} {E : List Em} {a : Nm.St} {t : List (Tm.Cell Ta.Key)} {h : List Ya.Td} {k : Ja.Ac} (r : Rel hs cx cn s ns E a t h k) {now : Int} {M : List Ya.Td} (d : Due ns E now M) :
  (left ns M M.length).map (en E) = expS id now s.l ∧ ∀ L : List En, Sorted L → L.Perm (M.map fun x => en E x.1.toNat) → L = expG id now s.l := by
 have e1 : ∀ f : En → Bool, s.l.filter f = (ns.filter fun n => f (en E n)).map (en E) := fun f => by rw [r.l, List.filter_map]; rfl
 refine ⟨by rw [d.rest]; unfold expS; rw [e1]; rfl, fun L hL hp => ?_⟩
 obtain ⟨g1, g2⟩ := expG_both now s.l
 refine one_order hL g1 (hp.trans ?_) g2 fun x hx y hy e => ?_
 ·rw [e1 fun x => dueE x.d now]
  have h1 := (d.perm r.nd).map (en E)
  rw [List.map_map] at h1
  exact h1
 ·have hx' := (List.mem_filter.1 hx).1
  have hy' := (List.mem_filter.1 hy).1
  rw [r.l] at hx' hy'
  obtain ⟨n, hn, rfl⟩ := List.mem_map.1 hx'
  obtain ⟨m, hm, rfl⟩ := List.mem_map.1 hy'
  rw [r.inj hn hm e]
theorem due_keys {hs : Nat → Prop} {cx cn : Int} {s : Sx} {ns : List Nat} {E : List Em} {a : Nm.St} {t : List (Tm.Cell Ta.Key)} {h : List Ya.Td} {k : Ja.Ac} (r : Rel hs cx cn s ns E a t h k) {now : Int} {M : List Ya.Td} (d : Due ns E now M) {l : List Em} (hl : l.map Em.e = M.map fun x => en E x.1.toNat) : (l.map (·.e.k)).Nodup := by
 have h1 : l.map (·.e.k) = (M.map fun x => en E x.1.toNat).map (·.k) := by rw [← hl, List.map_map]; rfl
 have h0 := d.nd
 rw [h1, List.map_map]
 unfold List.Nodup at h0 ⊢
 rw [List.pairwise_map] at h0 ⊢
 refine h0.imp_of_mem fun {x y} hx hy hne e => hne ?_
 obtain ⟨n, hn, _, rfl⟩ := (d.of x).1 hx
 obtain ⟨m, hm, _, rfl⟩ := (d.of y).1 hy
 simp only [Function.comp, Int.toNat_natCast] at e
 rw [r.inj hn hm e]
end Go.Proofs.YtlmljhnogmfcfaaGreat.Iw
