/- Proves plain facts on commands: their parts, which are valid, their payloads, and what a payload reads as. No program. -/
import Derived.Test.YthlfahblnpijaaaDoorVm
namespace Go.Proofs.YthlfahblnpijaaaDoor.Qm
open Go.RowKit Vm

structure Cmd where
  op : Int
  key : Bs
  keys : List Bs
  value : Bs
  tags : List Bs
  life : Nat
  version : Nat
  tag : Bs
  pre : Bs
  child : Bs

def eqC (a b : Cmd) : Bool := decide (a.op = b.op) && (decide (a.key = b.key) && (decide (a.keys = b.keys) && (decide (a.value = b.value) && (decide (a.tags = b.tags) && (decide (a.life = b.life) && (decide (a.version = b.version) && (decide (a.tag = b.tag) && (decide (a.pre = b.pre) && decide (a.child = b.child)))))))))
theorem eqC_iff (a b : Cmd) : eqC a b = true ↔ a = b := by
  cases a; cases b; simp [eqC]
theorem eqC_self (a : Cmd) : eqC a a = true := (eqC_iff a a).2 rfl
/-- The parts of the Op that is k + 1, as bits. -/
def maskN : Nat → Nat
  | 0 => 57 | 1 => 57 | 2 => 121 | 3 => 1 | 4 => 4 | 5 => 33 | 6 => 1 | 7 => 128 | 8 => 128 | 9 => 256 | 10 => 3 | 11 => 3 | 12 => 1 | _ => 0
def hasP (k i : Nat) : Bool := (maskN k).testBit i
def inOp (op : Int) : Bool := decide (1 ≤ op) && decide (op ≤ 15)
def kx (op : Int) : Nat := (op - 1).toNat
def validK (l : Bs) : Bool := decide (1 ≤ l.length) && decide (l.length ≤ 250)
def validT (l : Bs) : Bool := decide (1 ≤ l.length) && decide (l.length ≤ 64)
def validP (l : Bs) : Bool := decide (l.length ≤ 250)
def allowS (h : Bool) (l : Bs) (b : Bool) : Bool := if h then b else decide (l = [])
def allowL (h : Bool) (l : List Bs) (lo hi : Nat) (f : Bs → Bool) : Bool := if h then (decide (lo ≤ l.length) && decide (l.length ≤ hi)) && l.all f else decide (l.length = 0)
/-- What the program's Valid asks of each part, one after the other. -/
def validG (c : Cmd) : Bool := inOp c.op && (allowS (hasP (kx c.op) 0) c.key (validK c.key) && (allowS (hasP (kx c.op) 1) c.child (validK c.child) && (allowS (hasP (kx c.op) 7) c.tag (validT c.tag) && (allowS (hasP (kx c.op) 8) c.pre (validP c.pre) &&
  (allowL (hasP (kx c.op) 2) c.keys 1 16 validK && (allowL (hasP (kx c.op) 4) c.tags 0 16 validT && ((decide (c.value.length = 0) || (hasP (kx c.op) 3 && decide (c.value.length ≤ 65536))) && ((decide (c.life ≠ 0) == hasP (kx c.op) 5) && (decide (c.version = 0) || hasP (kx c.op) 6)))))))))
/-- The letters of the parts: k 107, c 99, m 109, v 118, t 116, l 108, n 110, g 103, p 112. -/
def needsN : Nat → Bs
  | 0 => [107, 118, 116, 108] | 1 => [107, 118, 116, 108] | 2 => [107, 118, 116, 108, 110] | 3 => [107] | 4 => [109] | 5 => [107, 108] | 6 => [107] | 7 => [103] | 8 => [103] | 9 => [112] | 10 => [107, 99] | 11 => [107, 99] | 12 => [107] | _ => []
def needs (op : Int) : Bs := if inOp op then needsN (kx op) else []
def setP (c out : Cmd) (x : UInt8) : Cmd :=
  if x = 107 then { out with key := c.key } else if x = 118 then { out with value := c.value } else if x = 116 then { out with tags := c.tags } else if x = 108 then { out with life := c.life } else if x = 110 then { out with version := c.version }
  else if x = 109 then { out with keys := c.keys } else if x = 103 then { out with tag := c.tag } else if x = 112 then { out with pre := c.pre } else if x = 99 then { out with child := c.child } else out
def bare (op : Int) : Cmd := { op := op, key := [], keys := [], value := [], tags := [], life := 0, version := 0, tag := [], pre := [], child := [] }
def only (c : Cmd) : Cmd := (needs c.op).foldl (setP c) (bare c.op)
def allowR (c : Cmd) (x : UInt8) : Bool :=
  if x = 107 then validK c.key else if x = 118 then decide (c.value.length ≤ 65536) else if x = 116 then c.tags.all validT && decide (c.tags.length ≤ 16) else if x = 108 then decide (c.life ≠ 0)
  else if x = 109 then c.keys.all validK && (decide (1 ≤ c.keys.length) && decide (c.keys.length ≤ 16)) else if x = 103 then validT c.tag else if x = 112 then validP c.pre else if x = 99 then validK c.child else true
def validR (c : Cmd) : Bool := inOp c.op && (eqC c (only c) && (needs c.op).all (allowR c))

theorem in_cases {op : Int} (h : inOp op = true) : ∃ k : Nat, k < 15 ∧ op = (k : Int) + 1 ∧ kx op = k := by
  unfold inOp at h
  simp only [Bool.and_eq_true, decide_eq_true_eq] at h
  exact ⟨(op - 1).toNat, by omega, by omega, rfl⟩
theorem valid_same (c : Cmd) : validR c = validG c := by
  by_cases h : inOp c.op = true
  · obtain ⟨k, hk, e, ek⟩ := in_cases h
    unfold validR validG only needs
    rw [if_pos h, h, ek]
    obtain ⟨op, key, keys, value, tags, life, version, tag, pre, child⟩ := c
    simp only at *
    rw [Bool.eq_iff_iff]
    match k, hk with
    | 0, _ | 1, _ | 2, _ | 3, _ | 4, _ | 5, _ | 6, _ | 7, _ | 8, _ | 9, _ | 10, _ | 11, _ | 12, _ | 13, _ | 14, _ =>
      simp (decide := true) only [needsN, List.foldl_cons, List.foldl_nil, setP, bare, eqC, allowR, allowS, allowL, hasP, maskN, List.all_cons, List.all_nil, if_true, if_false]
      simp only [Bool.and_eq_true, Bool.or_eq_true, decide_eq_true_eq, beq_iff_eq, Bool.true_and, Bool.and_true, ne_eq, List.length_eq_zero_iff, Nat.zero_le]
      grind
    | k + 15, h => omega
  · unfold validR validG
    rw [show inOp c.op = false by simpa using h]; rfl

/-! Payloads. -/
def encS (l : Bs) : Bs := encN l.length ++ l
def encL (ls : List Bs) : Bs := encN ls.length ++ ls.flatMap encS
def bytesR (c : Cmd) (x : UInt8) : Bs :=
  if x = 107 then encS c.key else if x = 118 then encS c.value else if x = 116 then encL c.tags else if x = 108 then encN c.life else if x = 110 then encN c.version
  else if x = 109 then encL c.keys else if x = 103 then encS c.tag else if x = 112 then encS c.pre else encS c.child
def payR (c : Cmd) : Bs := (needs c.op).flatMap (bytesR c)
/-- The parts in the program's order: place of the bit, letter. -/
def order9 : List (Nat × UInt8) := [(0, 107), (1, 99), (2, 109), (3, 118), (4, 116), (5, 108), (6, 110), (7, 103), (8, 112)]
def lettersG (k : Nat) : Bs := (order9.filter fun p => hasP k p.1).map (·.2)
theorem letters_same : ∀ k : Fin 15, lettersG k = needsN k := by decide +kernel
/-- What a list begins with: a number, bytes with their length, a list of such; and what is left. -/
def rdN (l : Bs) : Option (Nat × Bs) := if getE l = 0 then some (getN l, l.drop (getS l)) else none
def rdS (l : Bs) : Option (Bs × Bs) := if (partV l 65536).2.2 = 0 then some ((partV l 65536).1, l.drop (partV l 65536).2.1) else none
def rdMany : Nat → Bs → Option (List Bs × Bs)
  | 0, l => some ([], l)
  | n + 1, l => match rdS l with
    | none => none
    | some (s, r) => (rdMany n r).map fun p => (s :: p.1, p.2)
def rdL (l : Bs) : Option (List Bs × Bs) := match rdN l with
  | none => none
  | some (n, r) => if 16 < n then none else rdMany n r
def rdPart (c : Cmd) (x : UInt8) (l : Bs) : Option (Cmd × Bs) :=
  if x = 107 then (rdS l).map fun p => ({ c with key := p.1 }, p.2) else if x = 118 then (rdS l).map fun p => ({ c with value := p.1 }, p.2) else if x = 116 then (rdL l).map fun p => ({ c with tags := p.1 }, p.2)
  else if x = 108 then (rdN l).map fun p => ({ c with life := p.1 }, p.2) else if x = 110 then (rdN l).map fun p => ({ c with version := p.1 }, p.2) else if x = 109 then (rdL l).map fun p => ({ c with keys := p.1 }, p.2)
  else if x = 103 then (rdS l).map fun p => ({ c with tag := p.1 }, p.2) else if x = 112 then (rdS l).map fun p => ({ c with pre := p.1 }, p.2) else (rdS l).map fun p => ({ c with child := p.1 }, p.2)
def rdAll : Bs → Cmd → Bs → Option (Cmd × Bs)
  | [], c, l => some (c, l)
  | x :: xs, c, l => match rdPart c x l with
    | none => none
    | some (c', r) => rdAll xs c' r
theorem rdAll_snoc : ∀ (xs : Bs) (x : UInt8) (c : Cmd) (l : Bs), rdAll (xs ++ [x]) c l = (rdAll xs c l).bind fun p => rdPart p.1 x p.2
  | [], x, c, l => by
    simp only [List.nil_append, rdAll, Option.bind_some]
    cases h : rdPart c x l with
    | none => rfl
    | some p => obtain ⟨c', r⟩ := p; rfl
  | y :: ys, x, c, l => by
    simp only [List.cons_append, rdAll]
    cases h : rdPart c y l with
    | none => rfl
    | some p => obtain ⟨c', r⟩ := p; exact rdAll_snoc ys x c' r
/-- The command of a frame. -/
def readR (op : Int) (p : Bs) : Option Cmd := match rdAll (needs op) (bare op) p with
  | none => none
  | some (c, r) => if r = [] ∧ validR c = true then some c else none

theorem rdN_put (n : Nat) (r : Bs) (h : n < big) : rdN (encN n ++ r) = some (n, r) := by
  obtain ⟨h1, h2, h3⟩ := get_put n r h
  unfold rdN; rw [if_pos h3, h1, h2, List.drop_left]
theorem rdN_has {l r : Bs} {n : Nat} (h : rdN l = some (n, r)) : l = encN n ++ r ∧ n < big := by
  unfold rdN at h
  split at h
  · rename_i he
    obtain ⟨h1, h2, h3, h4⟩ := get_has l he
    simp only [Option.some.injEq, Prod.mk.injEq] at h
    obtain ⟨rfl, rfl⟩ := h
    exact ⟨by rw [← h2, List.take_append_drop], h4⟩
  · cases h
theorem rdS_put (s r : Bs) (h : s.length ≤ 65536) : rdS (encS s ++ r) = some (s, r) := by
  have hb : s.length < big := by unfold big; omega
  unfold rdS encS
  rw [part_put s r 65536 (by omega) hb]
  simp only [if_true, Option.some.injEq, Prod.mk.injEq, true_and]
  rw [← List.length_append, List.drop_left]
theorem rdS_has {l s r : Bs} (h : rdS l = some (s, r)) : l = encS s ++ r ∧ s.length ≤ 65536 := by
  unfold rdS at h
  split at h
  · rename_i he
    simp only [Option.some.injEq, Prod.mk.injEq] at h
    obtain ⟨rfl, rfl⟩ := h
    have h0 : ¬ (65536 : Int) < 0 := by omega
    by_cases h2 : getE l = 0
    · by_cases h3 : (65536 : Int) < (getN l : Int)
      · rw [part_long h0 h2 h3] at he; cases he
      · by_cases h4 : l.length - getS l < getN l
        · rw [part_short h0 h2 h3 h4] at he; cases he
        · rw [part_ok h0 h2 h3 h4]
          obtain ⟨g1, g2, g3, g4⟩ := get_has l h2
          have hlen : ((l.drop (getS l)).take (getN l)).length = getN l := by rw [List.length_take, List.length_drop]; omega
          simp only
          refine ⟨?_, by rw [hlen]; omega⟩
          unfold encS
          rw [hlen, ← g2, List.append_assoc, ← List.drop_drop, List.take_append_drop, List.take_append_drop]
    · rw [part_err h0 h2] at he; exact absurd he h2
  · cases h
theorem rdMany_put : ∀ (ls : List Bs) (r : Bs), (∀ s ∈ ls, s.length ≤ 65536) → rdMany ls.length (ls.flatMap encS ++ r) = some (ls, r)
  | [], r, _ => rfl
  | s :: ls, r, h => by
    rw [List.length_cons, rdMany, List.flatMap_cons, List.append_assoc, rdS_put s _ (h s (by simp))]
    simp only
    rw [rdMany_put ls r (fun x hx => h x (by simp [hx]))]; rfl
theorem rdMany_has : ∀ (n : Nat) (l : Bs) (ls : List Bs) (r : Bs), rdMany n l = some (ls, r) → ls.length = n ∧ l = ls.flatMap encS ++ r ∧ ∀ s ∈ ls, s.length ≤ 65536
  | 0, l, ls, r, h => by
    simp only [rdMany, Option.some.injEq, Prod.mk.injEq] at h
    obtain ⟨rfl, rfl⟩ := h
    simp
  | n + 1, l, ls, r, h => by
    unfold rdMany at h
    split at h
    · cases h
    · rename_i s t hs
      rw [Option.map_eq_some_iff] at h
      obtain ⟨p, hp, e⟩ := h
      simp only [Prod.mk.injEq] at e
      obtain ⟨rfl, rfl⟩ := e
      obtain ⟨h1, h2, h3⟩ := rdMany_has n t p.1 p.2 hp
      obtain ⟨h4, h5⟩ := rdS_has hs
      refine ⟨by simp [h1], by rw [h4, h2, List.flatMap_cons, List.append_assoc], ?_⟩
      intro x hx
      rcases List.mem_cons.1 hx with rfl | hx
      · exact h5
      · exact h3 x hx
theorem rdL_put (ls : List Bs) (r : Bs) (h1 : ls.length ≤ 16) (h : ∀ s ∈ ls, s.length ≤ 65536) : rdL (encL ls ++ r) = some (ls, r) := by
  unfold rdL encL
  rw [List.append_assoc, rdN_put _ _ (by unfold big; omega)]
  simp only
  rw [if_neg (by omega), rdMany_put ls r h]
theorem rdL_has {l r : Bs} {ls : List Bs} (h : rdL l = some (ls, r)) : l = encL ls ++ r ∧ ls.length ≤ 16 ∧ ∀ s ∈ ls, s.length ≤ 65536 := by
  unfold rdL at h
  split at h
  · cases h
  · rename_i n t hn
    split at h
    · cases h
    · obtain ⟨h1, h2, h3⟩ := rdMany_has _ _ _ _ h
      obtain ⟨h4, _⟩ := rdN_has hn
      exact ⟨by unfold encL; rw [h1, List.append_assoc, ← h2, h4], by omega, h3⟩
/-- The nine letters. -/
def nine : Bs := [107, 118, 116, 108, 110, 109, 103, 112, 99]
theorem needs_nine (op : Int) : ∀ x ∈ needs op, x ∈ nine := by
  unfold needs
  split
  · rename_i h
    obtain ⟨k, hk, _, e⟩ := in_cases h
    rw [e]
    have := (show ∀ k : Fin 15, ∀ x ∈ needsN k, x ∈ nine by decide +kernel) ⟨k, hk⟩
    exact this
  · simp
theorem needs_nodup (op : Int) : (needs op).Nodup := by
  unfold needs
  split
  · rename_i h
    obtain ⟨k, hk, _, e⟩ := in_cases h
    rw [e]
    exact (show ∀ k : Fin 15, (needsN k).Nodup by decide +kernel) ⟨k, hk⟩
  · simp
/-- What a command's parts have at most. -/
structure Small (c : Cmd) : Prop where
  life : c.life < big
  version : c.version < big
theorem all_small {f : Bs → Bool} {ls : List Bs} (h : ls.all f = true) (hf : ∀ s, f s = true → s.length ≤ 65536) : ∀ s ∈ ls, s.length ≤ 65536 := fun s hs => hf s (List.all_eq_true.1 h s hs)
theorem valK {s : Bs} (h : validK s = true) : s.length ≤ 65536 := by unfold validK at h; simp only [Bool.and_eq_true, decide_eq_true_eq] at h; omega
theorem valT {s : Bs} (h : validT s = true) : s.length ≤ 65536 := by unfold validT at h; simp only [Bool.and_eq_true, decide_eq_true_eq] at h; omega
theorem valP {s : Bs} (h : validP s = true) : s.length ≤ 65536 := by unfold validP at h; simp only [decide_eq_true_eq] at h; omega
theorem rdPart_put (c o : Cmd) (x : UInt8) (r : Bs) (hs : Small c) (hx : x ∈ nine) (ha : allowR c x = true) : rdPart o x (bytesR c x ++ r) = some (setP c o x, r) := by
  unfold nine at hx
  simp only [List.mem_cons, List.not_mem_nil, or_false] at hx
  rcases hx with rfl | rfl | rfl | rfl | rfl | rfl | rfl | rfl | rfl <;> simp (decide := true) only [allowR, rdPart, bytesR, setP, if_true, if_false, Bool.and_eq_true, decide_eq_true_eq] at ha ⊢
  · rw [rdS_put _ _ (valK ha)]; rfl
  · rw [rdS_put _ _ ha]; rfl
  · rw [rdL_put _ _ ha.2 (all_small ha.1 (fun _ => valT))]; rfl
  · rw [rdN_put _ _ hs.life]; rfl
  · rw [rdN_put _ _ hs.version]; rfl
  · rw [rdL_put _ _ ha.2.2 (all_small ha.1 (fun _ => valK))]; rfl
  · rw [rdS_put _ _ (valT ha)]; rfl
  · rw [rdS_put _ _ (valP ha)]; rfl
  · rw [rdS_put _ _ (valK ha)]; rfl
theorem rdAll_put (c : Cmd) (hs : Small c) : ∀ (xs : Bs) (o : Cmd) (r : Bs), (∀ x ∈ xs, x ∈ nine) → xs.all (allowR c) = true → rdAll xs o (xs.flatMap (bytesR c) ++ r) = some (xs.foldl (setP c) o, r)
  | [], o, r, _, _ => rfl
  | x :: xs, o, r, hn, ha => by
    simp only [List.all_cons, Bool.and_eq_true] at ha
    rw [rdAll, List.flatMap_cons, List.append_assoc, rdPart_put c o x _ hs (hn x (by simp)) ha.1]
    exact rdAll_put c hs xs _ r (fun y hy => hn y (by simp [hy])) ha.2
/-- Reading inverts writing. -/
theorem read_write (c : Cmd) (hs : Small c) (hv : validR c = true) : readR c.op (payR c) = some c := by
  have hv' := hv
  unfold validR at hv'
  simp only [Bool.and_eq_true] at hv'
  obtain ⟨_, h2, h3⟩ := hv'
  have h := rdAll_put c hs (needs c.op) (bare c.op) [] (needs_nine c.op) h3
  have e : (needs c.op).foldl (setP c) (bare c.op) = c := ((eqC_iff _ _).1 h2).symm
  unfold readR payR
  rw [List.append_nil] at h
  rw [h, e]
  simp only
  rw [if_pos ⟨trivial, hv⟩]
theorem rdPart_has {c c' : Cmd} {x : UInt8} {l r : Bs} (hx : x ∈ nine) (h : rdPart c x l = some (c', r)) : l = bytesR c' x ++ r ∧ (∀ y ∈ nine, y ≠ x → bytesR c' y = bytesR c y) ∧ c'.op = c.op ∧ (Small c → Small c') := by
  unfold nine at hx
  simp only [List.mem_cons, List.not_mem_nil, or_false] at hx
  rcases hx with rfl | rfl | rfl | rfl | rfl | rfl | rfl | rfl | rfl <;> simp (decide := true) only [rdPart, bytesR, if_true, if_false] at h ⊢ <;> rw [Option.map_eq_some_iff] at h <;> obtain ⟨⟨v, q⟩, hp, e⟩ := h <;> simp only [Prod.mk.injEq] at e <;> obtain ⟨rfl, rfl⟩ := e
  · exact ⟨(rdS_has hp).1, fun y hy hne => by simp only [if_neg hne], rfl, fun s => ⟨s.life, s.version⟩⟩
  · exact ⟨(rdS_has hp).1, fun y hy hne => by simp only [if_neg hne], rfl, fun s => ⟨s.life, s.version⟩⟩
  · exact ⟨(rdL_has hp).1, fun y hy hne => by simp only [if_neg hne], rfl, fun s => ⟨s.life, s.version⟩⟩
  · exact ⟨(rdN_has hp).1, fun y hy hne => by simp only [if_neg hne], rfl, fun s => ⟨(rdN_has hp).2, s.version⟩⟩
  · exact ⟨(rdN_has hp).1, fun y hy hne => by simp only [if_neg hne], rfl, fun s => ⟨s.life, (rdN_has hp).2⟩⟩
  · exact ⟨(rdL_has hp).1, fun y hy hne => by simp only [if_neg hne], rfl, fun s => ⟨s.life, s.version⟩⟩
  · exact ⟨(rdS_has hp).1, fun y hy hne => by simp only [if_neg hne], rfl, fun s => ⟨s.life, s.version⟩⟩
  · exact ⟨(rdS_has hp).1, fun y hy hne => by simp only [if_neg hne], rfl, fun s => ⟨s.life, s.version⟩⟩
  · exact ⟨(rdS_has hp).1, fun y hy hne => by
      unfold nine at hy
      simp only [List.mem_cons, List.not_mem_nil, or_false] at hy
      rcases hy with rfl | rfl | rfl | rfl | rfl | rfl | rfl | rfl | rfl <;> first | rfl | exact absurd rfl hne, rfl, fun s => ⟨s.life, s.version⟩⟩
theorem rdAll_has : ∀ (xs : Bs) (o c : Cmd) (l r : Bs), (∀ x ∈ xs, x ∈ nine) → xs.Nodup → rdAll xs o l = some (c, r) → l = xs.flatMap (bytesR c) ++ r ∧ (∀ y ∈ nine, y ∉ xs → bytesR c y = bytesR o y) ∧ c.op = o.op ∧ (Small o → Small c)
  | [], o, c, l, r, _, _, h => by
    simp only [rdAll, Option.some.injEq, Prod.mk.injEq] at h
    obtain ⟨rfl, rfl⟩ := h
    exact ⟨rfl, fun _ _ _ => rfl, rfl, fun s => s⟩
  | x :: xs, o, c, l, r, hn, hd, h => by
    rw [rdAll] at h
    split at h
    · cases h
    · rename_i c' t hp
      obtain ⟨h1, h2, h3, h4⟩ := rdPart_has (hn x (by simp)) hp
      rw [List.nodup_cons] at hd
      obtain ⟨g1, g2, g3, g4⟩ := rdAll_has xs c' c t r (fun y hy => hn y (by simp [hy])) hd.2 h
      refine ⟨?_, fun y hy hne => ?_, g3.trans h3, fun s => g4 (h4 s)⟩
      · rw [h1, g1, List.flatMap_cons, List.append_assoc, g2 x (hn x (by simp)) hd.1]
      · simp only [List.mem_cons, not_or] at hne
        rw [g2 y hy hne.2, h2 y hy hne.1]
theorem bare_small (op : Int) : Small (bare op) := ⟨by unfold bare big; simp, by unfold bare big; simp⟩
/-- Writing inverts reading. -/
theorem write_read {op : Int} {p : Bs} {c : Cmd} (h : readR op p = some c) : payR c = p ∧ c.op = op ∧ validR c = true ∧ Small c := by
  unfold readR at h
  split at h
  · cases h
  · rename_i c' r hr
    split at h
    · rename_i hc
      simp only [Option.some.injEq] at h
      subst h
      obtain ⟨h1, h2, h3, h4⟩ := rdAll_has _ _ _ _ _ (needs_nine op) (needs_nodup op) hr
      have e : c'.op = op := h3
      obtain ⟨rfl, hv⟩ := hc
      refine ⟨?_, e, hv, h4 (bare_small op)⟩
      unfold payR
      rw [e, h1, List.append_nil]
    · cases h
end Go.Proofs.YthlfahblnpijaaaDoor.Qm
