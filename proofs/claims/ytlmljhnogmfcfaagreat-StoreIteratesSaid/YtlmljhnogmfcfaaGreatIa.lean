/- Proves plain facts about what the parts of a store hold beside each other (the slots, the index, the order of use, the deadlines and the account), when an entry is taken out, put in or used. No program, no condition. -/
import Derived.Test.YtlmljhnogmfcfaaGreatEl
import Derived.Test.YtlmljhnogmfcfaaGreatNfw
import Derived.Test.YtlmljhnogmfcfaaGreatTh
import Derived.Test.YtlmljhnogmfcfaaGreatUe
import Derived.Test.YtlmljhnogmfcfaaGreatYe
import Derived.Test.YtlmljhnogmfcfaaGreatJe
namespace Go.Proofs.YtlmljhnogmfcfaaGreat.Ia
open Go.RowKit Ap Mi Nw Ea

def en (E : List Em) (n : Nat) : En := (E.getD n zeroM).e
theorem en_at {E : List Em} {n : Nat} (h : n < E.length) : en E n = E[n].e := by unfold en; rw [List.getD_eq_getElem?_getD, List.getElem?_eq_getElem h]; rfl
theorem en_eq {E : List Em} {n : Nat} {x : Em} (h : n < E.length) : en (E.set n x) n = x.e := by rw [en_at (by simpa using h)]; simp
theorem en_ne {E : List Em} {n m : Nat} {x : Em} (h : n ≠ m) : en (E.set n x) m = en E m := by
 unfold en; rw [List.getD_eq_getElem?_getD, List.getD_eq_getElem?_getD, List.getElem?_set_ne h]
theorem en_app {E : List Em} {m : Nat} {x : Em} (h : m < E.length) : en (E ++ [x]) m = en E m := by
 unfold en; rw [List.getD_eq_getElem?_getD, List.getD_eq_getElem?_getD, List.getElem?_append_left h]
def wn (ns : List Nat) (n : Nat) : List Nat := ns.filter (fun x => decide (x ≠ n))
theorem mem_wn {ns : List Nat} {n m : Nat} : m ∈ wn ns n ↔ m ∈ ns ∧ m ≠ n := by unfold wn; simp
def iI (ns : List Nat) : List Int := ns.map (fun (n : Nat) => (n : Int))
theorem mem_iI {ns : List Nat} {n : Nat} : (n : Int) ∈ iI ns ↔ n ∈ ns := by
 unfold iI
 rw [List.mem_map]
 constructor
 ·rintro ⟨a, ha, e⟩
  have : a = n := by omega
  rw [← this]; exact ha
 ·exact fun h => ⟨n, h, rfl⟩
theorem iI_wn (ns : List Nat) (n : Nat) : Ua.wo (iI ns) (n : Int) = iI (wn ns n) := by
 unfold Ua.wo iI wn
 rw [List.filter_map]
 congr 1
 refine List.filter_congr fun x _ => ?_
 simp
 omega
theorem wn_no {ns : List Nat} {n : Nat} (h : n ∉ ns) : wn ns n = ns := by
 unfold wn; rw [List.filter_eq_self]; intro x hx; have : x ≠ n := fun e => h (e ▸ hx); simpa using this
theorem wn_at : ∀ {ns : List Nat} {i : Nat}, ns.Nodup → ∀ (hi : i < ns.length), wn ns ns[i] = wo ns i
 | [], _, _, hi => by simp at hi
 | x :: r, 0, hd, _ => by
  have hx := (List.nodup_cons.1 hd).1
  have h1 := wn_no hx
  unfold wn at h1 ⊢
  unfold wo
  simp only [List.getElem_cons_zero, List.filter_cons, List.take_zero, List.nil_append, List.drop_succ_cons, List.drop_zero]
  rw [if_neg (by simp)]; exact h1
 | x :: r, i + 1, hd, hi => by
  have hx := (List.nodup_cons.1 hd).1
  have ih := wn_at (i := i) (List.nodup_cons.1 hd).2 (by simpa using hi)
  have hne : x ≠ r[i]'(by simpa using hi) := fun e => hx (e ▸ List.getElem_mem _)
  unfold wn at ih ⊢
  unfold wo at ih ⊢
  simp only [List.getElem_cons_succ, List.filter_cons, List.take_succ_cons, List.cons_append, List.drop_succ_cons]
  rw [if_pos (by simpa using hne), ih]
theorem wn_len {ns : List Nat} {n : Nat} (hd : ns.Nodup) (hn : n ∈ ns) : (wn ns n).length + 1 = ns.length := by
 obtain ⟨i, hi, rfl⟩ := List.getElem_of_mem hn
 rw [wn_at hd hi]; exact wo_len hi
theorem used_wo {l : List En} {i : Nat} (hi : i < l.length) : used (wo l i) + cost l[i] = used l := by
 have h1 : l = l.take i ++ l[i] :: l.drop (i + 1) := by rw [← List.drop_eq_getElem_cons hi, List.take_append_drop]
 have h2 : used l = used (l.take i) + (cost l[i] + used (l.drop (i + 1))) := by
  conv => lhs; rw [h1]
  rw [used_append, used_cons]
 unfold wo
 rw [used_append]; omega
def kb (k : ByteArray) : Ta.Key := k.data.toList
theorem kb_str (k : ByteArray) : (⟨(kb k).toArray⟩ : ByteArray) = k := by cases k; rfl
theorem kb_inj {a b : ByteArray} (h : kb a = kb b) : a = b := by rw [← kb_str a, ← kb_str b, h]
theorem kb_len (k : ByteArray) : (kb k).length = k.size := by unfold kb; simp
theorem kb_ok (k : ByteArray) : Tf.okK (kb k) = decide (keyOk k) := by
 unfold Tf.okK; rw [kb_len, Bool.eq_iff_iff, Bool.and_eq_true, decide_eq_true_iff, decide_eq_true_iff, decide_eq_true_iff]; rfl
structure Ok (s : Sx) : Prop where
 bb : bud s.b s.e
 ae : ∀ x ∈ s.l, okE x ∧ Fit x
 nd : (s.l.map (·.k)).Nodup
 le : (s.l.length : Int) ≤ s.e
 us : (used s.l : Int) ≤ s.b
theorem sumT_le {l : List ByteArray} : ∀ {K : Nat}, K ≤ l.length → good l K → sumT l K ≤ 64 * K
 | 0, _, _ => by rw [sumT_zero]; omega
 | K + 1, hK, hg => by
  have h1 := sumT_le (K := K) (by omega) (fun i h hi => hg i h (by omega))
  have h2 := (hg K (by omega) (by omega)).1.2
  rw [sumT_succ (by omega)]; omega
theorem cost_c {x : En} (h : okE x) : Ja.isC (cost x : Int) := by
 have h1 := sumT_le (Nat.le_refl _) h.2.2.2
 have := h.1.1; have := h.1.2; have := h.2.1; have := h.2.2.1
 unfold Ja.isC cost
 omega
theorem cost_v {x : En} (h : okE x) : Jc.costV x.k x.v.length x.t = (cost x : Int) := by
 have h1 : Jc.keyOk x.k ∧ Jc.okT x.t := ⟨h.1, h.2.2⟩
 rw [(Jc.cost_good h1 h.2.1).1]
 unfold cost
 have : Jc.sumT x.t x.t.length = sumT x.t x.t.length := rfl
 omega
theorem used_two {l : List En} (h : ∀ x ∈ l, okE x) : l.length * 65 ≤ used l ∧ used l ≤ l.length * 67000 := by
 induction l with
 | nil => simp [used]
 | cons x r ih =>
  have h1 := cost_c (h x (by simp))
  have h2 := ih (fun y hy => h y (by simp [hy]))
  unfold Ja.isC at h1
  rw [used_cons, List.length_cons]
  omega
theorem Ok.wo {s : Sx} (h : Ok s) {i : Nat} (hi : i < s.l.length) : Ok { s with l := wo s.l i } := by
 have hs : (Ea.wo s.l i).Sublist s.l := by
  unfold Ea.wo
  conv => rhs; rw [← List.take_append_drop i s.l]
  exact List.Sublist.append (List.Sublist.refl _) (by rw [← List.drop_drop]; exact List.drop_sublist _ _)
 refine ⟨h.bb, fun x hx => h.ae x (hs.subset hx), h.nd.sublist (hs.map _), ?_, ?_⟩
 ·have := wo_len hi; have := h.le; show ((Ea.wo s.l i).length : Int) ≤ s.e; omega
 ·have := used_wo hi; have := h.us; show (used (Ea.wo s.l i) : Int) ≤ s.b; omega
structure Rel (hs : Nat → Prop) (cx cn : Int) (s : Sx) (ns : List Nat) (E : List Em) (a : Nm.St) (t : List (Tm.Cell Ta.Key)) (h : List Ya.Td) (k : Ja.Ac) : Prop where
 ok : Ok s
 l : s.l = ns.map (en E)
 nd : ns.Nodup
 lt : ∀ n ∈ ns, n < E.length
 le : (E.length : Int) ≤ s.e
 al : a.gens.length = E.length
 am : ∀ n, n < E.length → (a.tk[n]? = some true ↔ n ∈ ns)
 tm : ∀ k' x, some (k', x) ∈ t ↔ x ∈ ns ∧ k' = kb (en E x).k
 tc : Tm.cnt t = ns.length
 hm : ∀ x, x ∈ h ↔ ∃ n ∈ ns, hs n ∧ x = ((n : Int), (en E n).d)
 k : k = ⟨s.b, s.e, (used s.l : Int) + cx, (s.l.length : Int) + cn⟩
 kx : cn * 65 ≤ cx ∧ cx ≤ cn * 67000 ∧ 0 ≤ cn ∧ cn ≤ 1
section
variable {hs : Nat → Prop} {cx cn : Int} {s : Sx} {ns : List Nat} {E : List Em} {a : Nm.St} {t : List (Tm.Cell Ta.Key)} {h : List Ya.Td} {k : Ja.Ac}
theorem Rel.len (r : Rel hs cx cn s ns E a t h k) : s.l.length = ns.length := by rw [r.l]; simp
theorem Rel.get (r : Rel hs cx cn s ns E a t h k) {i : Nat} (hi : i < ns.length) : s.l[i]'(by rw [r.len]; exact hi) = en E ns[i] := by
 have : s.l[i]? = some (en E ns[i]) := by rw [r.l, List.getElem?_map, List.getElem?_eq_getElem hi]; rfl
 rw [List.getElem?_eq_getElem (by rw [r.len]; exact hi)] at this
 injection this
theorem Rel.enm (r : Rel hs cx cn s ns E a t h k) {n : Nat} (hn : n ∈ ns) : en E n ∈ s.l := by rw [r.l]; exact List.mem_map_of_mem hn
theorem Rel.oke (r : Rel hs cx cn s ns E a t h k) {n : Nat} (hn : n ∈ ns) : okE (en E n) ∧ Fit (en E n) := r.ok.ae _ (r.enm hn)
theorem Rel.big (r : Rel hs cx cn s ns E a t h k) : E.length ≤ 1048576 := by have := r.le; have := r.ok.bb.2.2.2; omega
theorem Rel.sl (r : Rel hs cx cn s ns E a t h k) {n : Nat} (hn : n ∈ ns) : Ua.Sl (n : Int) ∧ Yb.Sl (n : Int) := by
 have := r.lt n hn; have := r.big
 exact ⟨⟨by omega, by omega⟩, ⟨by omega, by omega⟩⟩
theorem Rel.inj (r : Rel hs cx cn s ns E a t h k) {n m : Nat} (hn : n ∈ ns) (hm : m ∈ ns) (e : (en E n).k = (en E m).k) : n = m := by
 have hd := r.ok.nd
 rw [r.l, List.map_map] at hd
 obtain ⟨i, hi, rfl⟩ := List.getElem_of_mem hn
 obtain ⟨j, hj, rfl⟩ := List.getElem_of_mem hm
 have h1 := List.getElem_inj (i := i) (j := j) (h₀ := by simpa using hi) (h₁ := by simpa using hj) hd
 simp only [List.getElem_map, Function.comp] at h1
 have := h1.1 e
 subst this; rfl
theorem Rel.nsh (r : Rel hs cx cn s ns E a t h k) {n : Nat} : (n : Int) ∈ Yb.ns h ↔ n ∈ ns ∧ hs n := by
 rw [Yb.mem_ns]
 constructor
 ·rintro ⟨x, hx, e⟩
  obtain ⟨m, hm, hm1, rfl⟩ := (r.hm x).1 hx
  have : m = n := by simp only at e; omega
  subst this; exact ⟨hm, hm1⟩
 ·rintro ⟨hn, h1⟩; exact ⟨_, (r.hm _).2 ⟨n, hn, h1, rfl⟩, rfl⟩
theorem Rel.take (r : Rel hs cx cn s ns E a t h k) {i : Nat} (hi : i < ns.length) {t' : List (Tm.Cell Ta.Key)} {a' : Nm.St}
  (ht : ∀ k' x, some (k', x) ∈ t' ↔ k' ≠ kb (en E ns[i]).k ∧ some (k', x) ∈ t) (hc : Tm.cnt t' + 1 = Tm.cnt t) (hg : a'.gens.length = a.gens.length) (hk : a'.tk = a.tk.set ns[i] false) (hl : a.tk.length = a.gens.length) :
  Rel hs cx cn { s with l := wo s.l i } (wn ns ns[i]) (E.set ns[i] zeroM) a' t' (Yc.remT h (ns[i] : Int)) (Ja.remT k (cost (en E ns[i]) : Int)) ∧ Ja.isC (cost (en E ns[i]) : Int) ∧ Ja.can k (cost (en E ns[i]) : Int) := by
 have hn : ns[i] ∈ ns := List.getElem_mem hi
 have hil : i < s.l.length := by rw [r.len]; exact hi
 have hlen := wn_len r.nd hn
 have huse := used_wo hil
 have hwl := wo_len hil
 have hcost := cost_c (r.oke hn).1
 have hok := r.ok.wo hil
 have htwo := used_two (fun x hx => (hok.ae x hx).1)
 have hti : cost s.l[i] = cost (en E ns[i]) := by rw [r.get hi]
 have hkx := r.kx
 have hcan : Ja.can k (cost (en E ns[i]) : Int) := by
  unfold Ja.can
  rw [r.k]
  simp only at htwo ⊢
  omega
 obtain ⟨n, hne⟩ : ∃ n, n = ns[i] := ⟨_, rfl⟩
 have hwn := wn_at r.nd hi
 have hs1 := r.sl hn
 rw [← hne] at hn hlen hcost hti hcan hwn hs1 hk ht ⊢
 have hnl := r.lt n hn
 refine ⟨⟨hok, ?_, ?_, ?_, ?_, ?_, ?_, ?_, ?_, ?_, ?_, hkx⟩, hcost, hcan⟩
 ·rw [hwn]
  show Ea.wo s.l i = _
  rw [r.l, ← wo_map]
  refine List.map_congr_left fun m hm => (en_ne ?_).symm
  rw [← hwn] at hm
  exact fun e => (mem_wn.1 hm).2 e.symm
 ·exact r.nd.sublist List.filter_sublist
 ·intro m hm; rw [List.length_set]; exact r.lt m (mem_wn.1 hm).1
 ·rw [List.length_set]; exact r.le
 ·rw [List.length_set, hg, r.al]
 ·intro m hm
  rw [List.length_set] at hm
  rw [hk, mem_wn]
  by_cases e : n = m
  ·subst e; rw [List.getElem?_set_self (by rw [hl, r.al]; exact hm)]; simp
  ·rw [List.getElem?_set_ne e, r.am m hm]
   exact ⟨fun h => ⟨h, fun e' => e e'.symm⟩, fun h => h.1⟩
 ·intro k' x
  rw [ht, r.tm, mem_wn]
  constructor
  ·rintro ⟨h1, h2, rfl⟩
   have hx : x ≠ n := fun e => h1 (by rw [e])
   exact ⟨⟨h2, hx⟩, by rw [en_ne (fun e => hx e.symm)]⟩
  ·rintro ⟨⟨h1, h2⟩, rfl⟩
   rw [en_ne (fun e => h2 e.symm)]
   exact ⟨fun e => h2 (r.inj h1 hn (kb_inj e)), h1, rfl⟩
 ·have := r.tc; omega
 ·intro x
  have hmem : x ∈ Yc.remT h (n : Int) ↔ x ∈ h ∧ x.1 ≠ (n : Int) := by
   unfold Yc.remT
   split
   ·exact Yc.mem_wo
   ·rename_i hno
    constructor
    ·exact fun hx => ⟨hx, fun e => hno ⟨hs1.2, Yb.mem_ns.2 ⟨x, hx, e⟩⟩⟩
    ·exact fun hx => hx.1
  rw [hmem, r.hm]
  constructor
  ·rintro ⟨⟨m, h1, h2, rfl⟩, h3⟩
   have hmn : m ≠ n := fun e => h3 (by rw [e])
   exact ⟨m, mem_wn.2 ⟨h1, hmn⟩, h2, by rw [en_ne (fun e => hmn e.symm)]⟩
  ·rintro ⟨m, h1, h2, rfl⟩
   have h3 := mem_wn.1 h1
   refine ⟨⟨m, h3.1, h2, by rw [en_ne (fun e => h3.2 e.symm)]⟩, ?_⟩
   simp only; omega
 ·unfold Ja.remT
  rw [if_pos ⟨hcost, hcan⟩, r.k]
  simp only [Ja.Ac.mk.injEq, true_and]
  omega
theorem Rel.hold {x : Em} (r : Rel hs (cost x.e : Int) 1 s ns E a t h k) (hx : okE x.e ∧ Fit x.e) (hk : ∀ y ∈ s.l, y.k ≠ x.e.k) (hu : (used s.l : Int) + (cost x.e : Int) ≤ s.b) (hl : (s.l.length : Int) + 1 ≤ s.e) {n : Nat} {E1 : List Em} {a' : Nm.St} {t' : List (Tm.Cell Ta.Key)} (hsn : hs n)
  (hE : (n < E.length ∧ E1 = E) ∨ (n = E.length ∧ E1 = E ++ [zeroM])) (hn : n ∉ ns) (hle : (E1.length : Int) ≤ s.e) (hg : a'.gens.length = E1.length) (hkn : a'.tk[n]? = some true) (hko : ∀ m, m < E.length → m ≠ n → a'.tk[m]? = a.tk[m]?)
  (ht : ∀ o, some o ∈ t' ↔ o = (kb x.e.k, n) ∨ some o ∈ t) (hc : Tm.cnt t' = Tm.cnt t + 1) :
  Rel hs 0 0 { s with l := s.l ++ [x.e] } (ns ++ [n]) (E1.set n x) a' t' (Yc.putT h (n : Int) x.e.d) k := by
 have hn1 : n < E1.length := by
  rcases hE with ⟨h1, rfl⟩ | ⟨h1, rfl⟩
  ·exact h1
  ·simp; omega
 have hEl : E.length ≤ E1.length := by rcases hE with ⟨h1, rfl⟩ | ⟨h1, rfl⟩ <;> simp
 have hen : ∀ m, m ∈ ns → en (E1.set n x) m = en E m := fun m hm => by
  rw [en_ne (fun e => hn (by rw [e]; exact hm))]
  rcases hE with ⟨h1, rfl⟩ | ⟨h1, rfl⟩
  ·rfl
  ·exact en_app (r.lt m hm)
 have hnn : en (E1.set n x) n = x.e := en_eq hn1
 have hbe := r.ok.bb.2.2.2
 refine ⟨⟨r.ok.bb, ?_, ?_, ?_, ?_⟩, ?_, ?_, ?_, ?_, ?_, ?_, ?_, ?_, ?_, ?_, by omega⟩
 ·intro y hy
  rcases List.mem_append.1 hy with hy | hy
  ·exact r.ok.ae y hy
  ·rw [List.mem_singleton.1 hy]; exact hx
 ·show ((s.l ++ [x.e]).map (·.k)).Nodup
  rw [List.map_append]
  refine List.nodup_append.2 ⟨r.ok.nd, by simp, ?_⟩
  intro y hy z hz e
  obtain ⟨y', hy', rfl⟩ := List.mem_map.1 hy
  simp only [List.map_cons, List.map_nil, List.mem_singleton] at hz
  exact hk y' hy' (by rw [e, hz])
 ·show ((s.l ++ [x.e]).length : Int) ≤ s.e
  simp; omega
 ·show (used (s.l ++ [x.e]) : Int) ≤ s.b
  rw [used_append, used_cons, used_nil]; omega
 ·show s.l ++ [x.e] = _
  rw [List.map_append, List.map_congr_left hen, ← r.l, List.map_cons, List.map_nil, hnn]
 ·refine List.nodup_append.2 ⟨r.nd, by simp, ?_⟩
  intro y hy z hz e
  rw [List.mem_singleton.1 hz] at e
  exact hn (e ▸ hy)
 ·intro m hm
  rw [List.length_set]
  rcases List.mem_append.1 hm with hm | hm
  ·have := r.lt m hm; omega
  ·rw [List.mem_singleton.1 hm]; exact hn1
 ·rw [List.length_set]; exact hle
 ·rw [List.length_set]; exact hg
 ·intro m hm
  rw [List.length_set] at hm
  rw [List.mem_append, List.mem_singleton]
  by_cases e : m = n
  ·subst e; rw [hkn]; simp
  ·have hmE : m < E.length := by
    rcases hE with ⟨h1, rfl⟩ | ⟨h1, rfl⟩
    ·exact hm
    ·simp at hm; omega
   rw [hko m hmE e, r.am m hmE]
   exact ⟨Or.inl, fun h => h.resolve_right e⟩
 ·intro k' y
  rw [ht, r.tm, List.mem_append, List.mem_singleton]
  constructor
  ·rintro (h1 | ⟨h1, rfl⟩)
   ·injection h1 with h1 h2
    subst h2; exact ⟨Or.inr rfl, by rw [hnn, h1]⟩
   ·exact ⟨Or.inl h1, by rw [hen y h1]⟩
  ·rintro ⟨h1 | rfl, rfl⟩
   ·exact Or.inr ⟨h1, by rw [hen y h1]⟩
   ·exact Or.inl (by rw [hnn])
 ·rw [hc, r.tc]; simp
 ·intro y
  have hns : (n : Int) ∉ Yb.ns h := fun hm => hn (r.nsh.1 hm).1
  have hsl : Yb.Sl (n : Int) := ⟨by omega, by omega⟩
  unfold Yc.putT
  rw [if_pos ⟨hsl, hns⟩, Yc.mem_ins, r.hm]
  constructor
  ·rintro (rfl | ⟨m, h1, h2, rfl⟩)
   ·exact ⟨n, by simp, hsn, by rw [hnn]⟩
   ·exact ⟨m, by simp [h1], h2, by rw [hen m h1]⟩
  ·rintro ⟨m, h1, h2, rfl⟩
   rcases List.mem_append.1 h1 with h1 | h1
   ·exact Or.inr ⟨m, h1, h2, by rw [hen m h1]⟩
   ·have := List.mem_singleton.1 h1
    subst this; exact Or.inl (by rw [hnn])
 ·rw [r.k]
  simp only [Ja.Ac.mk.injEq, true_and]
  rw [used_append, used_cons, used_nil, List.length_append]
  simp
theorem Rel.add (r : Rel hs 0 0 s ns E a t h k) {x : En} (hx : okE x) : Rel hs (cost x : Int) 1 s ns E a t h (Ja.addT k (cost x : Int)) ∧ Ja.addN k (cost x : Int) = 0 := by
 have hc := cost_c hx
 have hbe := r.ok.bb.2.2.2
 have hle := r.ok.le
 have hk : k.n < 2097152 := by rw [r.k]; simp only; omega
 refine ⟨⟨r.ok, r.l, r.nd, r.lt, r.le, r.al, r.am, r.tm, r.tc, r.hm, ?_, ?_⟩, ?_⟩
 ·unfold Ja.addT
  rw [if_pos ⟨hc, hk⟩, r.k]
  simp only [Ja.Ac.mk.injEq, true_and]
  omega
 ·unfold Ja.isC at hc; omega
 ·unfold Ja.addN
  rw [if_neg (fun h => h hc), if_neg (by omega)]
theorem Rel.use (r : Rel (fun _ => True) 0 0 s ns E a t h k) {i : Nat} (hi : i < ns.length) {E' : List Em} {h' : List Ya.Td} {y : En} (hy : y.k = (en E ns[i]).k ∧ cost y = cost (en E ns[i]) ∧ okE y ∧ Fit y)
  (hE : E'.length = E.length) (he : en E' ns[i] = y) (ho : ∀ m, m ∈ ns → m ≠ ns[i] → en E' m = en E m)
  (hh : ∀ x, x ∈ h' ↔ x = ((ns[i] : Int), y.d) ∨ (x ∈ h ∧ x.1 ≠ (ns[i] : Int))) :
  Rel (fun _ => True) 0 0 { s with l := wo s.l i ++ [y] } (wn ns ns[i] ++ [ns[i]]) E' a t h' k := by
 have hn : ns[i] ∈ ns := List.getElem_mem hi
 have hil : i < s.l.length := by rw [r.len]; exact hi
 have hlen := wn_len r.nd hn
 have huse := used_wo hil
 have hwl := wo_len hil
 have hok := r.ok.wo hil
 have hti : cost s.l[i] = cost (en E ns[i]) := by rw [r.get hi]
 have hkn : ∀ z ∈ wo s.l i, z.k ≠ y.k := by
  intro z hz e
  have hlw : wo s.l i = (wn ns ns[i]).map (en E) := by rw [wn_at r.nd hi, wo_map, ← r.l]
  rw [hlw] at hz
  obtain ⟨m, hm, rfl⟩ := List.mem_map.1 hz
  have hm := mem_wn.1 hm
  exact hm.2 (r.inj hm.1 hn (by rw [e, hy.1]))
 have hlw : wo s.l i = (wn ns ns[i]).map (en E) := by rw [wn_at r.nd hi, wo_map, ← r.l]
 obtain ⟨n, hne⟩ : ∃ n, n = ns[i] := ⟨_, rfl⟩
 rw [← hne] at hn hlen hti hlw he ho hh hy ⊢
 have hmem : ∀ m, m ∈ wn ns n ++ [n] ↔ m ∈ ns := fun m => by
  rw [List.mem_append, mem_wn, List.mem_singleton]
  constructor
  ·rintro (h | rfl); exact h.1; exact hn
  ·intro h
   by_cases e : m = n
   ·exact Or.inr e
   ·exact Or.inl ⟨h, e⟩
 have hky : ∀ m, m ∈ ns → (en E' m).k = (en E m).k := fun m hm => by
  by_cases e : m = n
  ·subst e; rw [he, hy.1]
  ·rw [ho m hm e]
 refine ⟨⟨r.ok.bb, ?_, ?_, ?_, ?_⟩, ?_, ?_, ?_, ?_, ?_, ?_, ?_, ?_, ?_, ?_, by omega⟩
 ·intro z hz
  rcases List.mem_append.1 hz with hz | hz
  ·exact hok.ae z hz
  ·rw [List.mem_singleton.1 hz]; exact hy.2.2
 ·show ((wo s.l i ++ [y]).map (·.k)).Nodup
  rw [List.map_append]
  refine List.nodup_append.2 ⟨hok.nd, by simp, ?_⟩
  intro z hz u hu e
  obtain ⟨z', hz', rfl⟩ := List.mem_map.1 hz
  simp only [List.map_cons, List.map_nil, List.mem_singleton] at hu
  exact hkn z' hz' (by rw [e, hu])
 ·show ((wo s.l i ++ [y]).length : Int) ≤ s.e
  have := r.ok.le
  simp; omega
 ·show (used (wo s.l i ++ [y]) : Int) ≤ s.b
  have := r.ok.us
  rw [used_append, used_cons, used_nil]; omega
 ·show wo s.l i ++ [y] = _
  rw [List.map_append, List.map_cons, List.map_nil, he, hlw]
  congr 1
  exact List.map_congr_left fun m hm => (ho m (mem_wn.1 hm).1 (mem_wn.1 hm).2).symm
 ·refine List.nodup_append.2 ⟨r.nd.sublist List.filter_sublist, by simp, ?_⟩
  intro z hz u hu e
  rw [List.mem_singleton.1 hu] at e
  exact (mem_wn.1 hz).2 e
 ·intro m hm; rw [hE]; exact r.lt m ((hmem m).1 hm)
 ·rw [hE]; exact r.le
 ·rw [hE]; exact r.al
 ·intro m hm; rw [hE] at hm; rw [r.am m hm, hmem]
 ·intro k' x
  rw [r.tm, hmem]
  constructor
  ·rintro ⟨h1, rfl⟩; exact ⟨h1, by rw [hky x h1]⟩
  ·rintro ⟨h1, rfl⟩; exact ⟨h1, by rw [hky x h1]⟩
 ·rw [r.tc, List.length_append]; simp; omega
 ·intro x
  rw [hh, r.hm]
  constructor
  ·rintro (rfl | ⟨⟨m, h1, h2, rfl⟩, h3⟩)
   ·exact ⟨n, (hmem n).2 hn, trivial, by rw [he]⟩
   ·have hmn : m ≠ n := fun e => h3 (by rw [e])
    exact ⟨m, (hmem m).2 h1, h2, by rw [ho m h1 hmn]⟩
  ·rintro ⟨m, h1, h2, rfl⟩
   by_cases e : m = n
   ·subst e; exact Or.inl (by rw [he])
   ·have h1 := (hmem m).1 h1
    refine Or.inr ⟨⟨m, h1, h2, by rw [ho m h1 e]⟩, ?_⟩
    simp only; omega
 ·rw [r.k]
  simp only [Ja.Ac.mk.injEq, true_and]
  rw [used_append, used_cons, used_nil, List.length_append]
  simp
  omega
theorem Rel.look (r : Rel hs cx cn s ns E a t h k) (q : ByteArray) :
  (¬ keyOk q ∧ lookN s q = 2 ∧ Tf.Gets t (kb q) 0 2) ∨ (keyOk q ∧ fnd id s.l q = none ∧ lookN s q = 9 ∧ Tf.Gets t (kb q) 0 9) ∨
  (∃ i, ∃ hi : i < ns.length, fnd id s.l q = some i ∧ lookN s q = 0 ∧ lookE s q = en E ns[i] ∧ keyOk q ∧ Tf.Gets t (kb q) (ns[i] : Int) 0 ∧ (en E ns[i]).k = q) := by
 by_cases hk : keyOk q
 ·cases hf : fnd id s.l q with
  | none =>
   refine Or.inr (Or.inl ⟨hk, rfl, ?_, Or.inr (Or.inr ⟨by rw [kb_ok]; simpa using hk, ?_, rfl, rfl⟩)⟩)
   ·unfold lookN; rw [if_neg (fun h => h hk), hf]
   ·intro y hy
    obtain ⟨h1, h2⟩ := (r.tm _ _).1 hy
    exact fnd_none id hf _ (r.enm h1) (kb_inj h2).symm
  | some i =>
   obtain ⟨hil, hki⟩ := fnd_some id hf
   have hi : i < ns.length := by rw [← r.len]; exact hil
   have hN : lookN s q = 0 := by unfold lookN; rw [if_neg (fun h => h hk), hf]
   have hg := r.get hi
   have hq : (en E ns[i]).k = q := by rw [← hg]; exact hki
   refine Or.inr (Or.inr ⟨i, hi, rfl, hN, ?_, hk, ?_, hq⟩)
   ·unfold lookE
    rw [if_pos hN, hf, Option.getD_some, List.getD_eq_getElem?_getD, List.getElem?_eq_getElem hil]
    exact hg
   ·have hm : some (kb q, ns[i]) ∈ t := (r.tm _ _).2 ⟨List.getElem_mem hi, by rw [hq]⟩
    obtain ⟨j, hj⟩ := List.mem_iff_getElem?.1 hm
    exact Or.inr (Or.inl ⟨by rw [kb_ok]; simpa using hk, ⟨j, ns[i], hj, rfl⟩, rfl⟩)
 ·refine Or.inl ⟨hk, ?_, Or.inl ⟨by rw [kb_ok]; simpa using hk, rfl, rfl⟩⟩
  unfold lookN; rw [if_pos hk]
end
end Go.Proofs.YtlmljhnogmfcfaaGreat.Ia
