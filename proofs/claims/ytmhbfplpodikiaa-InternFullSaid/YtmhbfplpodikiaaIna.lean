/- Proves plain facts on chains: numbers that follow each other from heads on, put in at the front and taken out at a place. Conditions: as each theorem names them. -/
import Derived.Lib.Hide
namespace Go.Proofs.Ytmhbfplpodikiaa.Ina

/-- A place at which a number stands: a head, or what follows a number. -/
inductive Pl where
  | hd (b : Nat)
  | nx (m : Nat)
  deriving DecidableEq
/-- Heads, and what follows each number. -/
structure Sc where
  hd : List Int
  nx : List Int
def Sc.get (s : Sc) : Pl → Int
  | .hd b => s.hd.getD b 0
  | .nx m => s.nx.getD m 0
def Sc.put (s : Sc) (p : Pl) (v : Int) : Sc :=
  match p with
  | .hd b => ⟨s.hd.set b v, s.nx⟩
  | .nx m => ⟨s.hd, s.nx.set m v⟩
/-- Whether there is such a place. -/
def Sc.ok (s : Sc) : Pl → Prop
  | .hd b => b < s.hd.length
  | .nx m => m < s.nx.length
theorem getD_set_same {l : List Int} {b : Nat} (h : b < l.length) (v : Int) : (l.set b v).getD b 0 = v := by
  simp [List.getD_eq_getElem?_getD, h]
theorem getD_set_other {l : List Int} {b c : Nat} (h : b ≠ c) (v : Int) : (l.set b v).getD c 0 = l.getD c 0 := by
  simp [List.getD_eq_getElem?_getD, List.getElem?_set_ne h]
theorem get_put (s : Sc) (p : Pl) (v : Int) (h : s.ok p) : (s.put p v).get p = v := by
  cases p with
  | hd b => exact getD_set_same h v
  | nx m => exact getD_set_same h v
theorem get_put_ne (s : Sc) (p q : Pl) (v : Int) (h : p ≠ q) : (s.put p v).get q = s.get q := by
  cases p with
  | hd b => cases q with
    | hd c => exact getD_set_other (fun e => h (by rw [e])) v
    | nx m => rfl
  | nx m => cases q with
    | hd c => rfl
    | nx n => exact getD_set_other (fun e => h (by rw [e])) v
theorem put_hd_len (s : Sc) (p : Pl) (v : Int) : (s.put p v).hd.length = s.hd.length := by cases p <;> simp [Sc.put]
theorem put_nx_len (s : Sc) (p : Pl) (v : Int) : (s.put p v).nx.length = s.nx.length := by cases p <;> simp [Sc.put]
/-- The place of a number in a chain, and what stands there. -/
def plc (b : Nat) (c : List Nat) : Nat → Pl
  | 0 => .hd b
  | j + 1 => .nx (c.getD j 0)
def val (c : List Nat) (j : Nat) : Int := match c[j]? with | some i => (i : Int) | none => -1
theorem val_at {c : List Nat} {j : Nat} (h : j < c.length) : val c j = (c[j] : Int) := by unfold val; rw [List.getElem?_eq_getElem h]
theorem val_end {c : List Nat} {j : Nat} (h : c.length ≤ j) : val c j = -1 := by unfold val; rw [List.getElem?_eq_none h]
theorem val_end_iff {c : List Nat} {j : Nat} (hj : j ≤ c.length) : val c j = -1 ↔ j = c.length := by
  rcases Nat.lt_or_ge j c.length with h | h
  · rw [val_at h]; constructor
    · intro e; omega
    · intro e; omega
  · rw [val_end h]; exact ⟨fun _ => by omega, fun _ => rfl⟩
/-- A chain from a head on. -/
structure Ch (s : Sc) (b : Nat) (c : List Nat) : Prop where
  ch : ∀ j, j ≤ c.length → s.get (plc b c j) = val c j
  lt : ∀ i ∈ c, i < s.nx.length
  nd : c.Nodup
theorem nd_inj {c : List Nat} (hn : c.Nodup) {i j : Nat} (hi : i < c.length) (hj : j < c.length) (h : c[i] = c[j]) : i = j := by
  have hp := List.pairwise_iff_getElem.1 hn
  rcases Nat.lt_trichotomy i j with q | q | q
  · exact absurd h (hp i j hi hj q)
  · exact q
  · exact absurd h.symm (hp j i hj hi q)
theorem plc_inj {b : Nat} {c : List Nat} (hn : c.Nodup) {i j : Nat} (hi : i ≤ c.length) (hj : j ≤ c.length) (h : plc b c i = plc b c j) : i = j := by
  cases i with
  | zero => cases j with
    | zero => rfl
    | succ j => cases h
  | succ i => cases j with
    | zero => cases h
    | succ j =>
      injection h with h
      have h1 : i < c.length := by omega
      have h2 : j < c.length := by omega
      rw [List.getD_eq_getElem?_getD, List.getD_eq_getElem?_getD, List.getElem?_eq_getElem h1, List.getElem?_eq_getElem h2] at h
      have := nd_inj hn h1 h2 h
      omega
/-- Every number that is there is in the chain of its head, and in no other. -/
def Chs (s : Sc) (f : Nat → Nat) (L : Nat → Prop) : Prop := ∀ b, b < s.hd.length → ∃ c, Ch s b c ∧ ∀ i, i ∈ c ↔ L i ∧ f i = b
theorem Ch.ok {s : Sc} {b : Nat} {c : List Nat} (h : Ch s b c) (hb : b < s.hd.length) {j : Nat} (hj : j ≤ c.length) : s.ok (plc b c j) := by
  cases j with
  | zero => exact hb
  | succ j =>
    have h1 : j < c.length := by omega
    show c.getD j 0 < _
    rw [List.getD_eq_getElem?_getD, List.getElem?_eq_getElem h1]
    exact h.lt _ (List.getElem_mem h1)
theorem Ch.congr {s s' : Sc} {b : Nat} {c : List Nat} (h : Ch s b c) (hh : s'.hd.getD b 0 = s.hd.getD b 0) (hl : ∀ i ∈ c, i < s'.nx.length ∧ s'.nx.getD i 0 = s.nx.getD i 0) : Ch s' b c := by
  refine ⟨fun j hj => ?_, fun i hi => (hl i hi).1, h.nd⟩
  rw [← h.ch j hj]
  cases j with
  | zero => exact hh
  | succ j =>
    have h1 : j < c.length := by omega
    show s'.nx.getD (c.getD j 0) 0 = s.nx.getD (c.getD j 0) 0
    rw [List.getD_eq_getElem?_getD (l := c), List.getElem?_eq_getElem h1]
    exact (hl _ (List.getElem_mem h1)).2
theorem Chs.empty {s : Sc} (f : Nat → Nat) (h : ∀ b, b < s.hd.length → s.hd.getD b 0 = -1) : Chs s f (fun _ => False) := fun b hb =>
  ⟨[], ⟨(fun j hj => by simp at hj; subst hj; exact h b hb), (fun i hi => by cases hi), List.nodup_nil⟩, fun i => by simp⟩
theorem Chs.iff {s : Sc} {f : Nat → Nat} {L L' : Nat → Prop} (h : Chs s f L) (hL : ∀ i, L i ↔ L' i) : Chs s f L' := fun b hb => by
  obtain ⟨c, h1, h2⟩ := h b hb
  exact ⟨c, h1, fun i => by rw [h2 i, hL i]⟩
/-- What follows a number that is not there does not matter, nor where it would be. -/
theorem Chs.other {s s' : Sc} {f f' : Nat → Nat} {L : Nat → Prop} (h : Chs s f L) (hh : s'.hd = s.hd) (hf : ∀ i, L i → f' i = f i) (hl : ∀ i, L i → i < s.nx.length → i < s'.nx.length ∧ s'.nx.getD i 0 = s.nx.getD i 0) : Chs s' f' L := fun b hb => by
  rw [hh] at hb
  obtain ⟨c, h1, h2⟩ := h b hb
  refine ⟨c, h1.congr (by rw [hh]) (fun i hi => hl i ((h2 i).1 hi).1 (h1.lt i hi)), fun i => ?_⟩
  rw [h2 i]
  constructor
  · exact fun q => ⟨q.1, by rw [hf i q.1]; exact q.2⟩
  · exact fun q => ⟨q.1, by rw [← hf i q.1]; exact q.2⟩
/-- A number is put to the front of its chain. -/
theorem Chs.push {s : Sc} {f : Nat → Nat} {L : Nat → Prop} (h : Chs s f L) {n : Nat} (hn : n < s.nx.length) (hb : f n < s.hd.length) (hL : ¬ L n) :
    Chs ⟨s.hd.set (f n) (n : Int), s.nx.set n (s.hd.getD (f n) 0)⟩ f (fun i => L i ∨ i = n) := fun b hb' => by
  rw [List.length_set] at hb'
  obtain ⟨c, h1, h2⟩ := h b hb'
  have hc : n ∉ c := fun q => hL ((h2 n).1 q).1
  by_cases e : b = f n
  · subst e
    refine ⟨n :: c, ⟨fun j hj => ?_, fun i hi => ?_, List.nodup_cons.2 ⟨hc, h1.nd⟩⟩, fun i => ?_⟩
    · cases j with
      | zero => exact getD_set_same hb _
      | succ j =>
        have hj' : j ≤ c.length := by simpa using hj
        have e1 : val (n :: c) (j + 1) = val c j := by unfold val; rw [List.getElem?_cons_succ]
        rw [e1, ← h1.ch j hj']
        cases j with
        | zero =>
          show (s.nx.set n (s.hd.getD (f n) 0)).getD n 0 = s.hd.getD (f n) 0
          exact getD_set_same hn _
        | succ j =>
          have hjl : j < c.length := by omega
          show (s.nx.set n (s.hd.getD (f n) 0)).getD (c.getD j 0) 0 = s.nx.getD (c.getD j 0) 0
          refine getD_set_other (fun q => hc ?_) _
          rw [List.getD_eq_getElem?_getD, List.getElem?_eq_getElem hjl] at q
          rw [show n = c[j] from q]
          exact List.getElem_mem hjl
    · show i < (s.nx.set n _).length
      rw [List.length_set]
      rcases List.mem_cons.1 hi with q | q
      · rw [q]; exact hn
      · exact h1.lt i q
    · rw [List.mem_cons, h2 i]
      constructor
      · rintro (q | q)
        · exact ⟨Or.inr q, by rw [q]⟩
        · exact ⟨Or.inl q.1, q.2⟩
      · rintro ⟨q | q, q2⟩
        · exact Or.inr ⟨q, q2⟩
        · exact Or.inl q
  · refine ⟨c, h1.congr (getD_set_other (fun q => e q.symm) _) (fun i hi => ⟨?_, getD_set_other (fun q => hc (by rw [q]; exact hi)) _⟩), fun i => ?_⟩
    · show i < (s.nx.set n _).length
      rw [List.length_set]; exact h1.lt i hi
    · rw [h2 i]
      constructor
      · exact fun q => ⟨Or.inl q.1, q.2⟩
      · rintro ⟨q | q, q2⟩
        · exact ⟨q, q2⟩
        · rw [q] at q2; exact absurd q2.symm e
/-- A number is taken out of its chain. -/
theorem Chs.pop {s : Sc} {f : Nat → Nat} {L : Nat → Prop} (h : Chs s f L) {b : Nat} (hb : b < s.hd.length) {c : List Nat} (h1 : Ch s b c) (h2 : ∀ i, i ∈ c ↔ L i ∧ f i = b) {j : Nat} (hj : j < c.length) :
    Chs (s.put (plc b c j) (s.nx.getD c[j] 0)) f (fun i => L i ∧ i ≠ c[j]) := fun b' hb' => by
  rw [put_hd_len] at hb'
  have hok := h1.ok hb (Nat.le_of_lt hj)
  have hnx : s.nx.getD c[j] 0 = val c (j + 1) := by
    rw [← h1.ch (j + 1) hj]
    show _ = s.nx.getD (c.getD j 0) 0
    rw [List.getD_eq_getElem?_getD (l := c), List.getElem?_eq_getElem hj]; rfl
  by_cases e : b' = b
  · subst e
    have hm : ∀ i, i ∈ c.eraseIdx j ↔ i ∈ c ∧ i ≠ c[j] := fun i => by
      rw [List.mem_eraseIdx_iff_getElem]
      constructor
      · rintro ⟨m, hm, q1, q2⟩
        exact ⟨q2 ▸ List.getElem_mem hm, fun q => q1 (nd_inj h1.nd hm hj (q2.trans q))⟩
      · rintro ⟨q1, q2⟩
        obtain ⟨m, hm, rfl⟩ := List.getElem_of_mem q1
        exact ⟨m, hm, fun q => q2 (by subst q; rfl), rfl⟩
    have hlen : (c.eraseIdx j).length = c.length - 1 := List.length_eraseIdx_of_lt hj
    refine ⟨c.eraseIdx j, ⟨fun k hk => ?_, fun i hi => ?_, h1.nd.sublist (List.eraseIdx_sublist ..)⟩, fun i => ?_⟩
    · rw [hlen] at hk
      rcases Nat.lt_trichotomy k j with q | q | q
      · have e1 : plc b' (c.eraseIdx j) k = plc b' c k := by
          cases k with
          | zero => rfl
          | succ k =>
            show Pl.nx _ = Pl.nx _
            rw [List.getD_eq_getElem?_getD, List.getD_eq_getElem?_getD, List.getElem?_eraseIdx_of_lt (by omega)]
        have e2 : val (c.eraseIdx j) k = val c k := by unfold val; rw [List.getElem?_eraseIdx_of_lt q]
        rw [e1, e2, get_put_ne _ _ _ _ (fun e => by have := plc_inj h1.nd (Nat.le_of_lt hj) (by omega) e; omega)]
        exact h1.ch k (by omega)
      · subst q
        have e1 : plc b' (c.eraseIdx k) k = plc b' c k := by
          cases k with
          | zero => rfl
          | succ k =>
            show Pl.nx _ = Pl.nx _
            rw [List.getD_eq_getElem?_getD, List.getD_eq_getElem?_getD, List.getElem?_eraseIdx_of_lt (by omega)]
        have e2 : val (c.eraseIdx k) k = val c (k + 1) := by unfold val; rw [List.getElem?_eraseIdx_of_ge (by omega)]
        rw [e1, e2, get_put _ _ _ hok, hnx]
      · obtain ⟨k, rfl⟩ : ∃ m, k = m + 1 := ⟨k - 1, by omega⟩
        have e1 : plc b' (c.eraseIdx j) (k + 1) = plc b' c (k + 1 + 1) := by
          show Pl.nx _ = Pl.nx _
          rw [List.getD_eq_getElem?_getD, List.getD_eq_getElem?_getD, List.getElem?_eraseIdx_of_ge (by omega)]
        have e2 : val (c.eraseIdx j) (k + 1) = val c (k + 1 + 1) := by unfold val; rw [List.getElem?_eraseIdx_of_ge (by omega)]
        rw [e1, e2, get_put_ne _ _ _ _ (fun e => by have := plc_inj h1.nd (Nat.le_of_lt hj) (by omega) e; omega)]
        exact h1.ch (k + 1 + 1) (by omega)
    · rw [put_nx_len]; exact h1.lt i ((hm i).1 hi).1
    · rw [hm i, h2 i]
      exact ⟨fun q => ⟨⟨q.1.1, q.2⟩, q.1.2⟩, fun q => ⟨⟨q.1.1, q.2⟩, q.1.2⟩⟩
  · obtain ⟨c', g1, g2⟩ := h b' hb'
    have hne : ∀ k, k ≤ c'.length → plc b c j ≠ plc b' c' k := fun k hk q => by
      cases j with
      | zero => cases k with
        | zero => injection q with q; exact e q.symm
        | succ k => cases q
      | succ j => cases k with
        | zero => cases q
        | succ k =>
          injection q with q
          have a1 : j < c.length := by omega
          have a2 : k < c'.length := by omega
          rw [List.getD_eq_getElem?_getD, List.getD_eq_getElem?_getD, List.getElem?_eq_getElem a1, List.getElem?_eq_getElem a2] at q
          have q' : c[j] = c'[k] := q
          have b1 := ((h2 _).1 (List.getElem_mem a1)).2
          have b2 := ((g2 _).1 (List.getElem_mem a2)).2
          rw [q'] at b1
          exact e (b2.symm.trans b1)
    refine ⟨c', ⟨fun k hk => by rw [get_put_ne _ _ _ _ (hne k hk)]; exact g1.ch k hk, fun i hi => by rw [put_nx_len]; exact g1.lt i hi, g1.nd⟩, fun i => ?_⟩
    rw [g2 i]
    constructor
    · intro q
      exact ⟨⟨q.1, fun w => e (by rw [← q.2, w]; exact ((h2 _).1 (List.getElem_mem hj)).2)⟩, q.2⟩
    · exact fun q => ⟨q.1.1, q.2⟩
end Go.Proofs.Ytmhbfplpodikiaa.Ina
