/- Proves plain facts on responses: their parts, which are valid, their payloads, and what a payload reads as. No program. -/
import Derived.Test.YthlfahblnpijaaaDoorQm
namespace Go.Proofs.YthlfahblnpijaaaDoor.Sm
open Go.RowKit Vm Qm

structure Itm where
  mark : Int
  value : Bs
  version : Nat
  dead : Nat
structure Rsp where
  op : Int
  err : Int
  items : List Itm
  version : Nat
  count : Int
  numbers : List Nat
def eqI (a b : Itm) : Bool := decide (a.mark = b.mark) && (decide (a.value = b.value) && (decide (a.version = b.version) && decide (a.dead = b.dead)))
theorem eqI_iff (a b : Itm) : eqI a b = true ↔ a = b := by
  cases a; cases b; simp [eqI]
instance : DecidableEq Itm := fun a b => decidable_of_iff (eqI a b = true) (eqI_iff a b)
theorem eqI_dec (a b : Itm) : eqI a b = decide (a = b) := by rw [Bool.eq_iff_iff, eqI_iff, decide_eq_true_eq]
def eqR (a b : Rsp) : Bool := decide (a.op = b.op) && (decide (a.err = b.err) && (decide (a.version = b.version) && (decide (a.count = b.count) && (decide (a.items = b.items) && decide (a.numbers = b.numbers)))))
theorem eqR_iff (a b : Rsp) : eqR a b = true ↔ a = b := by
  cases a; cases b; simp [eqR]
  intro _ _; exact ⟨fun ⟨a, b, c, d⟩ => ⟨c, a, b, d⟩, fun ⟨c, a, b, d⟩ => ⟨a, b, c, d⟩⟩
theorem eqR_self (a : Rsp) : eqR a a = true := (eqR_iff a a).2 rfl
def zeroI : Itm := { mark := 0, value := [], version := 0, dead := 0 }
def bareR (op err : Int) : Rsp := { op := op, err := err, items := [], version := 0, count := 0, numbers := [] }
/-- w Version and Count, i one item, m items, n numbers, c Count. -/
def need (op : Int) : UInt8 := if op = 1 ∨ op = 2 ∨ op = 3 then 119 else if op = 4 then 105 else if op = 5 then 109 else if op = 15 then 110 else 99
def onlyR (r : Rsp) : Rsp :=
  if r.err ≠ 0 then bareR r.op r.err
  else if need r.op = 119 then { bareR r.op r.err with version := r.version, count := r.count }
  else if need r.op = 105 ∨ need r.op = 109 then { bareR r.op r.err with items := r.items }
  else if need r.op = 99 then { bareR r.op r.err with count := r.count }
  else { bareR r.op r.err with numbers := r.numbers }
def okI (x : Itm) : Bool := (decide (x.mark ≠ 0) || decide (x = zeroI)) && (decide (0 ≤ x.mark) && (decide (x.mark ≤ 2) && decide (x.value.length ≤ 65536)))
def okHead (r : Rsp) : Bool := decide (0 ≤ r.op) && (decide (r.op ≤ 15) && (decide (0 ≤ r.err) && (decide (r.err ≤ 100000) && (!(decide (r.op = 0) && decide (r.err = 0))))))
def okLen (r : Rsp) : Bool := !(decide (r.err = 0) && (decide (need r.op = 105) && decide (r.items.length ≠ 1))) && !(decide (r.err = 0) && (decide (need r.op = 109) && (decide (r.items.length < 1) || decide (16 < r.items.length))))
def validS (r : Rsp) : Bool := okHead r && (eqR r (onlyR r) && (r.items.all okI && (okLen r && (decide (0 ≤ r.count) && (decide (r.count ≤ 1099511627776) && decide (r.numbers.length ≤ 64))))))

/-! Payloads. -/
def encI (x : Itm) : Bs := encN x.mark.toNat ++ if x.mark = 0 then [] else encN x.version ++ (encN x.dead ++ encS x.value)
def headS (r : Rsp) : Bs :=
  if need r.op = 119 then encN r.version ++ encN r.count.toNat else if need r.op = 109 then encN r.items.length else if need r.op = 99 then encN r.count.toNat else if need r.op = 110 then encN r.numbers.length else []
def payS (r : Rsp) : Bs := encN r.err.toNat ++ if r.err = 0 then headS r ++ (r.items.flatMap encI ++ r.numbers.flatMap encN) else []
def rdI (l : Bs) : Option (Itm × Bs) := (rdN l).bind fun p => if 2 < p.1 then none else if p.1 = 0 then some (zeroI, p.2) else
  (rdN p.2).bind fun v => (rdN v.2).bind fun d => (rdS d.2).map fun s => ({ mark := (p.1 : Int), value := s.1, version := v.1, dead := d.1 }, s.2)
def rdIs : Nat → Bs → Option (List Itm × Bs)
  | 0, l => some ([], l)
  | n + 1, l => (rdI l).bind fun p => (rdIs n p.2).map fun q => (p.1 :: q.1, q.2)
def rdNs : Nat → Bs → Option (List Nat × Bs)
  | 0, l => some ([], l)
  | n + 1, l => (rdN l).bind fun p => (rdNs n p.2).map fun q => (p.1 :: q.1, q.2)
def rdBody (op : Int) (l : Bs) : Option (Rsp × Bs) :=
  if need op = 119 then (rdN l).bind fun v => (rdN v.2).bind fun n => if 1099511627776 < n.1 then none else some ({ bareR op 0 with version := v.1, count := (n.1 : Int) }, n.2)
  else if need op = 105 then (rdIs 1 l).map fun q => ({ bareR op 0 with items := q.1 }, q.2)
  else if need op = 109 then (rdN l).bind fun k => if 16 < k.1 then none else (rdIs k.1 k.2).map fun q => ({ bareR op 0 with items := q.1 }, q.2)
  else if need op = 99 then (rdN l).bind fun n => if 1099511627776 < n.1 then none else some ({ bareR op 0 with count := (n.1 : Int) }, n.2)
  else (rdN l).bind fun k => if 64 < k.1 then none else (rdNs k.1 k.2).map fun q => ({ bareR op 0 with numbers := q.1 }, q.2)
def readS (op : Int) (l : Bs) : Option Rsp := (rdN l).bind fun e => if 100000 < e.1 then none else
  (if e.1 = 0 then rdBody op e.2 else some (bareR op (e.1 : Int), e.2)).bind fun x => if x.2 = [] ∧ validS x.1 = true then some x.1 else none

/-- The numbers fit. -/
structure SmallR (r : Rsp) : Prop where
  version : r.version < big
  items : ∀ x ∈ r.items, x.version < big ∧ x.dead < big
  numbers : ∀ n ∈ r.numbers, n < big
theorem rdI_put (x : Itm) (r : Bs) (h : okI x = true) (hs : x.version < big ∧ x.dead < big) : rdI (encI x ++ r) = some (x, r) := by
  unfold okI at h
  simp only [Bool.and_eq_true, Bool.or_eq_true, decide_eq_true_eq] at h
  obtain ⟨h1, h2, h3, h4⟩ := h
  obtain ⟨m, v, ver, d⟩ := x
  simp only at *
  obtain ⟨k, rfl⟩ : ∃ k : Nat, m = (k : Int) := ⟨m.toNat, by omega⟩
  unfold rdI encI
  simp only [Int.toNat_natCast]
  rw [List.append_assoc, rdN_put k _ (by unfold big; omega)]
  simp only [Option.bind_some]
  rw [if_neg (by omega)]
  by_cases h0 : k = 0
  · subst h0
    have := h1.resolve_left (by simp)
    rw [if_pos rfl, if_pos (by rfl), this]; rfl
  · rw [if_neg h0, if_neg (by omega), List.append_assoc, rdN_put _ _ hs.1]
    simp only [Option.bind_some]
    rw [List.append_assoc, rdN_put _ _ hs.2]
    simp only [Option.bind_some]
    rw [rdS_put _ _ h4]; rfl
theorem rdI_has {l r : Bs} {x : Itm} (h : rdI l = some (x, r)) : l = encI x ++ r ∧ (0 ≤ x.mark ∧ x.mark ≤ 2) ∧ (x.version < big ∧ x.dead < big) ∧ x.value.length ≤ 65536 ∧ (x.mark = 0 → x = zeroI) := by
  unfold rdI at h
  rw [Option.bind_eq_some_iff] at h
  obtain ⟨⟨k, r1⟩, hk, h⟩ := h
  obtain ⟨e1, b1⟩ := rdN_has hk
  simp only at h
  split at h
  · cases h
  · split at h
    · rename_i h2 h0
      simp only [Option.some.injEq, Prod.mk.injEq] at h
      obtain ⟨rfl, rfl⟩ := h
      rw [h0] at e1
      refine ⟨by rw [e1]; simp [encI, zeroI], ⟨by simp [zeroI], by simp [zeroI]⟩, ⟨by simp [zeroI, big], by simp [zeroI, big]⟩, by simp [zeroI], fun _ => rfl⟩
    · rename_i h2 h0
      rw [Option.bind_eq_some_iff] at h
      obtain ⟨⟨v, r2⟩, hv, h⟩ := h
      rw [Option.bind_eq_some_iff] at h
      obtain ⟨⟨d, r3⟩, hd, h⟩ := h
      rw [Option.map_eq_some_iff] at h
      obtain ⟨⟨s, r4⟩, hs, h⟩ := h
      simp only [Prod.mk.injEq] at h
      obtain ⟨rfl, rfl⟩ := h
      obtain ⟨e2, b2⟩ := rdN_has hv
      obtain ⟨e3, b3⟩ := rdN_has hd
      obtain ⟨e4, b4⟩ := rdS_has hs
      simp only at e2 e3 e4 b2 b3 b4 h0 h2 ⊢
      refine ⟨?_, by omega, ⟨b2, b3⟩, b4, fun e => by omega⟩
      unfold encI
      simp only [Int.toNat_natCast]
      rw [if_neg (by omega), e1, e2, e3, e4]; simp
theorem rdIs_put : ∀ (xs : List Itm) (r : Bs), (∀ x ∈ xs, okI x = true) → (∀ x ∈ xs, x.version < big ∧ x.dead < big) → rdIs xs.length (xs.flatMap encI ++ r) = some (xs, r)
  | [], r, _, _ => rfl
  | x :: xs, r, h, hs => by
    rw [List.length_cons, rdIs, List.flatMap_cons, List.append_assoc, rdI_put x _ (h x (by simp)) (hs x (by simp))]
    simp only [Option.bind_some]
    rw [rdIs_put xs r (fun y hy => h y (by simp [hy])) (fun y hy => hs y (by simp [hy]))]; rfl
theorem rdIs_has : ∀ (n : Nat) (l : Bs) (xs : List Itm) (r : Bs), rdIs n l = some (xs, r) → xs.length = n ∧ l = xs.flatMap encI ++ r ∧ ∀ x ∈ xs, x.version < big ∧ x.dead < big
  | 0, l, xs, r, h => by
    simp only [rdIs, Option.some.injEq, Prod.mk.injEq] at h
    obtain ⟨rfl, rfl⟩ := h
    simp
  | n + 1, l, xs, r, h => by
    unfold rdIs at h
    rw [Option.bind_eq_some_iff] at h
    obtain ⟨⟨x, r1⟩, hx, h⟩ := h
    rw [Option.map_eq_some_iff] at h
    obtain ⟨⟨ys, r2⟩, hy, h⟩ := h
    simp only [Prod.mk.injEq] at h
    obtain ⟨rfl, rfl⟩ := h
    obtain ⟨h1, h2, h3⟩ := rdIs_has n r1 ys r2 hy
    obtain ⟨e1, _, b1, _⟩ := rdI_has hx
    refine ⟨by simp [h1], by rw [e1, h2, List.flatMap_cons, List.append_assoc], fun y hy => ?_⟩
    rcases List.mem_cons.1 hy with rfl | hy
    · exact b1
    · exact h3 y hy
theorem rdNs_put : ∀ (ns : List Nat) (r : Bs), (∀ n ∈ ns, n < big) → rdNs ns.length (ns.flatMap encN ++ r) = some (ns, r)
  | [], r, _ => rfl
  | n :: ns, r, h => by
    rw [List.length_cons, rdNs, List.flatMap_cons, List.append_assoc, rdN_put n _ (h n (by simp))]
    simp only [Option.bind_some]
    rw [rdNs_put ns r (fun y hy => h y (by simp [hy]))]; rfl
theorem rdNs_has : ∀ (n : Nat) (l : Bs) (xs : List Nat) (r : Bs), rdNs n l = some (xs, r) → xs.length = n ∧ l = xs.flatMap encN ++ r ∧ ∀ x ∈ xs, x < big
  | 0, l, xs, r, h => by
    simp only [rdNs, Option.some.injEq, Prod.mk.injEq] at h
    obtain ⟨rfl, rfl⟩ := h
    simp
  | n + 1, l, xs, r, h => by
    unfold rdNs at h
    rw [Option.bind_eq_some_iff] at h
    obtain ⟨⟨x, r1⟩, hx, h⟩ := h
    rw [Option.map_eq_some_iff] at h
    obtain ⟨⟨ys, r2⟩, hy, h⟩ := h
    simp only [Prod.mk.injEq] at h
    obtain ⟨rfl, rfl⟩ := h
    obtain ⟨h1, h2, h3⟩ := rdNs_has n r1 ys r2 hy
    obtain ⟨e1, b1⟩ := rdN_has hx
    refine ⟨by simp [h1], by rw [e1, h2, List.flatMap_cons, List.append_assoc], fun y hy => ?_⟩
    rcases List.mem_cons.1 hy with rfl | hy
    · exact b1
    · exact h3 y hy
theorem need_cases (op : Int) : need op = 119 ∨ need op = 105 ∨ need op = 109 ∨ need op = 110 ∨ need op = 99 := by
  unfold need
  repeat' split
  all_goals simp
/-- What a valid response is. -/
theorem valid_has {r : Rsp} (h : validS r = true) : (0 ≤ r.op ∧ r.op ≤ 15) ∧ (0 ≤ r.err ∧ r.err ≤ 100000) ∧ ¬ (r.op = 0 ∧ r.err = 0) ∧ r = onlyR r ∧ (∀ x ∈ r.items, okI x = true) ∧ (r.err = 0 → need r.op = 105 → r.items.length = 1) ∧ (r.err = 0 → need r.op = 109 → 1 ≤ r.items.length ∧ r.items.length ≤ 16) ∧ (0 ≤ r.count ∧ r.count ≤ 1099511627776) ∧ r.numbers.length ≤ 64 := by
  unfold validS okHead okLen at h
  simp only [Bool.and_eq_true, Bool.not_eq_true', Bool.and_eq_false_iff, Bool.or_eq_false_iff, decide_eq_true_eq, decide_eq_false_iff_not, List.all_eq_true, eqR_iff] at h
  obtain ⟨⟨a1, a2, a3, a4, a5⟩, b, c, ⟨d1, d2⟩, e1, e2, e3⟩ := h
  refine ⟨⟨a1, a2⟩, ⟨a3, a4⟩, by omega, b, c, fun h1 h2 => ?_, fun h1 h2 => ?_, ⟨e1, e2⟩, e3⟩
  · rcases d1 with d | d | d
    · exact absurd h1 d
    · exact absurd h2 d
    · omega
  · rcases d2 with d | d | d
    · exact absurd h1 d
    · exact absurd h2 d
    · omega
theorem read_writeS (r : Rsp) (hs : SmallR r) (hv : validS r = true) : readS r.op (payS r) = some r := by
  obtain ⟨⟨o1, o2⟩, ⟨e1, e2⟩, h0, ho, hi, l1, l2, ⟨c1, c2⟩, hn⟩ := valid_has hv
  unfold readS payS
  rw [rdN_put _ _ (by unfold big; omega)]
  simp only [Option.bind_some]
  rw [if_neg (by omega)]
  by_cases he : r.err = 0
  · have het : r.err.toNat = 0 := by omega
    rw [het, if_pos rfl, if_pos he]
    unfold onlyR at ho
    rw [if_neg (by simpa using he), he] at ho
    obtain ⟨k, hk⟩ : ∃ k : Nat, r.count = (k : Int) := ⟨r.count.toNat, by omega⟩
    rcases need_cases r.op with q | q | q | q | q
    · rw [if_pos q] at ho
      have i1 : r.items = [] := by rw [ho]; rfl
      have i2 : r.numbers = [] := by rw [ho]; rfl
      simp (decide := true) only [headS, rdBody, q, if_true, if_false]
      rw [i1, i2, hk]
      simp only [Int.toNat_natCast, List.flatMap_nil, List.append_nil]
      rw [rdN_put _ _ hs.version]
      simp only [Option.bind_some]
      have e : rdN (encN k) = some (k, []) := by have := rdN_put k [] (by unfold big; omega); rwa [List.append_nil] at this
      rw [e]
      simp only [Option.bind_some]
      rw [if_neg (by omega)]
      simp only [Option.bind_some]
      rw [← hk, ← ho, if_pos ⟨trivial, hv⟩]
    · rw [if_neg (by rw [q]; decide), if_pos (Or.inl q)] at ho
      have i2 : r.numbers = [] := by rw [ho]; rfl
      have h1 := l1 he q
      simp (decide := true) only [headS, rdBody, q, if_true, if_false]
      rw [i2]
      simp only [List.flatMap_nil, List.nil_append]
      rw [← h1, rdIs_put _ _ hi hs.items]
      simp only [Option.map_some, Option.bind_some]
      rw [← ho, if_pos ⟨trivial, hv⟩]
    · rw [if_neg (by rw [q]; decide), if_pos (Or.inr q)] at ho
      have i2 : r.numbers = [] := by rw [ho]; rfl
      have h1 := l2 he q
      simp (decide := true) only [headS, rdBody, q, if_true, if_false]
      rw [i2]
      simp only [List.flatMap_nil]
      rw [rdN_put _ _ (by unfold big; omega)]
      simp only [Option.bind_some]
      rw [if_neg (by omega), rdIs_put _ _ hi hs.items]
      simp only [Option.map_some, Option.bind_some]
      rw [← ho, if_pos ⟨trivial, hv⟩]
    · rw [if_neg (by rw [q]; decide), if_neg (by rw [q]; decide), if_neg (by rw [q]; decide)] at ho
      have i1 : r.items = [] := by rw [ho]; rfl
      simp (decide := true) only [headS, rdBody, q, if_true, if_false]
      rw [i1]
      simp only [List.flatMap_nil, List.nil_append]
      rw [rdN_put _ _ (by unfold big; omega)]
      simp only [Option.bind_some]
      have e := rdNs_put r.numbers [] hs.numbers
      rw [List.append_nil] at e
      rw [if_neg (by omega), e]
      simp only [Option.map_some, Option.bind_some]
      rw [← ho, if_pos ⟨trivial, hv⟩]
    · rw [if_neg (by rw [q]; decide), if_neg (by rw [q]; decide), if_pos q] at ho
      have i1 : r.items = [] := by rw [ho]; rfl
      have i2 : r.numbers = [] := by rw [ho]; rfl
      simp (decide := true) only [headS, rdBody, q, if_true, if_false]
      rw [i1, i2, hk]
      simp only [Int.toNat_natCast, List.flatMap_nil, List.append_nil]
      have e : rdN (encN k) = some (k, []) := by have := rdN_put k [] (by unfold big; omega); rwa [List.append_nil] at this
      rw [e]
      simp only [Option.bind_some]
      rw [if_neg (by omega)]
      simp only [Option.bind_some]
      rw [← hk, ← ho, if_pos ⟨trivial, hv⟩]
  · rw [if_neg (by omega), if_neg he]
    unfold onlyR at ho
    rw [if_pos (by simpa using he)] at ho
    simp only [Option.bind_some]
    have e : ((r.err.toNat : Nat) : Int) = r.err := by omega
    rw [e, ← ho, if_pos ⟨trivial, hv⟩]
theorem rdBody_has {op : Int} {l s : Bs} {r : Rsp} (h : rdBody op l = some (r, s)) : l = headS r ++ (r.items.flatMap encI ++ r.numbers.flatMap encN) ++ s ∧ r.op = op ∧ r.err = 0 ∧ SmallR r := by
  unfold rdBody at h
  have hz : 0 < big := by unfold big; omega
  rcases need_cases op with q | q | q | q | q
  · rw [if_pos q, Option.bind_eq_some_iff] at h
    obtain ⟨⟨v, r1⟩, hv, h⟩ := h
    rw [Option.bind_eq_some_iff] at h
    obtain ⟨⟨n, r2⟩, hn, h⟩ := h
    simp only at h
    split at h
    · cases h
    · simp only [Option.some.injEq, Prod.mk.injEq] at h
      obtain ⟨rfl, rfl⟩ := h
      obtain ⟨e1, b1⟩ := rdN_has hv
      obtain ⟨e2, b2⟩ := rdN_has hn
      refine ⟨?_, rfl, rfl, ⟨b1, (fun x hx => by cases hx), (fun x hx => by cases hx)⟩⟩
      simp (decide := true) only [headS, bareR, q, if_true, if_false, Int.toNat_natCast, List.flatMap_nil, List.append_nil]
      rw [e1, show r1 = encN n ++ r2 from e2, List.append_assoc]
  · simp (decide := true) only [q, if_true, if_false] at h
    rw [Option.map_eq_some_iff] at h
    obtain ⟨⟨xs, r1⟩, hx, h⟩ := h
    simp only [Prod.mk.injEq] at h
    obtain ⟨rfl, rfl⟩ := h
    obtain ⟨h1, h2, h3⟩ := rdIs_has _ _ _ _ hx
    refine ⟨?_, rfl, rfl, ⟨hz, h3, (fun x hx => by cases hx)⟩⟩
    simp (decide := true) only [headS, bareR, q, if_false, List.flatMap_nil, List.append_nil, List.nil_append]
    exact h2
  · simp (decide := true) only [q, if_true, if_false] at h
    rw [Option.bind_eq_some_iff] at h
    obtain ⟨⟨k, r0⟩, hk, h⟩ := h
    simp only at h
    split at h
    · cases h
    · rw [Option.map_eq_some_iff] at h
      obtain ⟨⟨xs, r1⟩, hx, h⟩ := h
      simp only [Prod.mk.injEq] at h
      obtain ⟨rfl, rfl⟩ := h
      obtain ⟨h1, h2, h3⟩ := rdIs_has _ _ _ _ hx
      obtain ⟨e1, _⟩ := rdN_has hk
      refine ⟨?_, rfl, rfl, ⟨hz, h3, (fun x hx => by cases hx)⟩⟩
      simp (decide := true) only [headS, bareR, q, if_true, if_false, List.flatMap_nil, List.append_nil]
      rw [e1, show r0 = _ from h2, h1, List.append_assoc]
  · simp (decide := true) only [q, if_false] at h
    rw [Option.bind_eq_some_iff] at h
    obtain ⟨⟨k, r0⟩, hk, h⟩ := h
    simp only at h
    split at h
    · cases h
    · rw [Option.map_eq_some_iff] at h
      obtain ⟨⟨xs, r1⟩, hx, h⟩ := h
      simp only [Prod.mk.injEq] at h
      obtain ⟨rfl, rfl⟩ := h
      obtain ⟨h1, h2, h3⟩ := rdNs_has _ _ _ _ hx
      obtain ⟨e1, _⟩ := rdN_has hk
      refine ⟨?_, rfl, rfl, ⟨hz, (fun x hx => by cases hx), h3⟩⟩
      simp (decide := true) only [headS, bareR, q, if_true, if_false, List.flatMap_nil, List.nil_append]
      rw [e1, show r0 = _ from h2, h1, List.append_assoc]
  · simp (decide := true) only [q, if_true, if_false] at h
    rw [Option.bind_eq_some_iff] at h
    obtain ⟨⟨n, r2⟩, hn, h⟩ := h
    simp only at h
    split at h
    · cases h
    · simp only [Option.some.injEq, Prod.mk.injEq] at h
      obtain ⟨rfl, rfl⟩ := h
      obtain ⟨e2, b2⟩ := rdN_has hn
      refine ⟨?_, rfl, rfl, ⟨hz, (fun x hx => by cases hx), (fun x hx => by cases hx)⟩⟩
      simp (decide := true) only [headS, bareR, q, if_true, if_false, Int.toNat_natCast, List.flatMap_nil, List.append_nil]
      exact e2
theorem write_readS {op : Int} {l : Bs} {r : Rsp} (h : readS op l = some r) : payS r = l ∧ r.op = op ∧ validS r = true ∧ SmallR r := by
  unfold readS at h
  rw [Option.bind_eq_some_iff] at h
  obtain ⟨⟨e, s⟩, he, h⟩ := h
  obtain ⟨e1, b1⟩ := rdN_has he
  simp only at h
  split at h
  · cases h
  · rw [Option.bind_eq_some_iff] at h
    obtain ⟨⟨x, s2⟩, hx, h⟩ := h
    simp only at h
    split at h
    · rename_i hc
      obtain ⟨rfl, hv⟩ := hc
      simp only [Option.some.injEq] at h
      subst h
      split at hx
      · rename_i h0
        obtain ⟨g1, g2, g3, g4⟩ := rdBody_has hx
        refine ⟨?_, g2, hv, g4⟩
        unfold payS
        rw [if_pos g3, g3, e1, show e = 0 from h0, show s = _ from g1, List.append_nil]; rfl
      · rename_i h0
        simp only [Option.some.injEq, Prod.mk.injEq] at hx
        obtain ⟨rfl, rfl⟩ := hx
        refine ⟨?_, rfl, hv, ⟨by simp [bareR, big], (fun x hx => by cases hx), (fun x hx => by cases hx)⟩⟩
        unfold payS bareR
        simp only [Int.toNat_natCast]
        rw [if_neg (by omega), e1]
    · cases h
end Go.Proofs.YthlfahblnpijaaaDoor.Sm
