/- Proves plain facts on the longest responses: which are valid, and that the payloads of the others are read by no one; and how responses lie in a row. Conditions: few bytes. -/
import Derived.Test.YthlfahblnpijaaaDoorSk
namespace Go.Proofs.YthlfahblnpijaaaDoor.Szh
open Go.RowKit Vm Ap Vw Va Gc Mi Mb Qm Sm Se So Sp Sk

def rG (v : Bs) : Rsp := { op := 4, err := 0, items := [⟨2, v, 18446744073709551615, 18446744073709551615⟩], version := 0, count := 0, numbers := [] }
def itF (i : Nat) : Itm := ⟨1, [], i, 0⟩
def rM (N : Nat) : Rsp := { op := 5, err := 0, items := (List.range N).map itF, version := 0, count := 0, numbers := [] }
def rN (N : Nat) : Rsp := { op := 15, err := 0, items := [], version := 0, count := 0, numbers := List.replicate N 18446744073709551615 }
def rD (c : Int) : Rsp := { op := 7, err := 0, items := [], version := 0, count := c, numbers := [] }
def rA (c : Int) : Rsp := { op := 2, err := 0, items := [], version := 18446744073709551615, count := c, numbers := [] }
def rF (op e : Int) : Rsp := { op := op, err := e, items := [], version := 0, count := 0, numbers := [] }
theorem rdS_long {s r : Bs} (h : 65536 < s.length) (hb : s.length < big) : rdS (encS s ++ r) = none := by
  cases e : rdS (encS s ++ r) with
  | none => rfl
  | some p =>
    obtain ⟨s', r'⟩ := p
    obtain ⟨h1, h2⟩ := rdS_has e
    unfold encS at h1
    rw [List.append_assoc, List.append_assoc] at h1
    have e1 := rdN_put s.length (s ++ r) hb
    rw [h1, rdN_put s'.length (s' ++ r') (by unfold big; omega)] at e1
    simp only [Option.some.injEq, Prod.mk.injEq] at e1
    omega
theorem zero_put (r : Bs) : rdN (encN 0 ++ r) = some (0, r) := rdN_put 0 r (by unfold big; omega)
theorem g_none {v : Bs} (h : 65536 < v.length) (hb : v.length < big) : readS 4 (payS (rG v)) = none := by
  have hp : payS (rG v) = encN 0 ++ (encN 2 ++ (encN 18446744073709551615 ++ (encN 18446744073709551615 ++ (encS v ++ [])))) := by
    simp (decide := true) [payS, headS, rG, need, encI]
  unfold readS
  rw [hp, zero_put]
  simp only [Option.bind_some]
  rw [if_neg (by omega), if_pos trivial]
  have hn : need 4 = 105 := rfl
  unfold rdBody
  rw [hn, if_neg (by decide), if_pos rfl]
  unfold rdIs rdI
  rw [rdN_put 2 _ (by unfold big; omega)]
  simp only [Option.bind_some]
  rw [if_neg (by omega), if_neg (by omega), rdN_put _ _ (by unfold big; omega)]
  simp only [Option.bind_some]
  rw [rdN_put _ _ (by unfold big; omega)]
  simp only [Option.bind_some]
  rw [rdS_long h hb]
  rfl
theorem m_none {N : Nat} (h : 16 < N) (hb : N < big) : readS 5 (payS (rM N)) = none := by
  have hp : ∃ r, payS (rM N) = encN 0 ++ (encN N ++ r) := by
    refine ⟨(rM N).items.flatMap encI ++ (rM N).numbers.flatMap encN, ?_⟩
    simp (decide := true) [payS, headS, rM, need]
  obtain ⟨r, hp⟩ := hp
  unfold readS
  rw [hp, zero_put]
  simp only [Option.bind_some]
  rw [if_neg (by omega), if_pos trivial]
  have hn : need 5 = 109 := rfl
  unfold rdBody
  rw [hn, if_neg (by decide), if_neg (by decide), if_pos rfl, rdN_put _ _ hb]
  simp only [Option.bind_some]
  rw [if_pos h]; rfl
theorem n_none {N : Nat} (h : 64 < N) (hb : N < big) : readS 15 (payS (rN N)) = none := by
  have hp : ∃ r, payS (rN N) = encN 0 ++ (encN N ++ r) := by
    refine ⟨(rN N).items.flatMap encI ++ (rN N).numbers.flatMap encN, ?_⟩
    simp (decide := true) [payS, headS, rN, need]
  obtain ⟨r, hp⟩ := hp
  unfold readS
  rw [hp, zero_put]
  simp only [Option.bind_some]
  rw [if_neg (by omega), if_pos trivial]
  have hn : need 15 = 110 := rfl
  unfold rdBody
  rw [hn, if_neg (by decide), if_neg (by decide), if_neg (by decide), if_neg (by decide), rdN_put _ _ hb]
  simp only [Option.bind_some]
  rw [if_pos h]; rfl
theorem d_none {c : Int} (h : 1099511627776 < c) (hb : c.toNat < big) : readS 7 (payS (rD c)) = none := by
  have hp : payS (rD c) = encN 0 ++ (encN c.toNat ++ []) := by
    simp (decide := true) [payS, headS, rD, need]
  unfold readS
  rw [hp, zero_put]
  simp only [Option.bind_some]
  rw [if_neg (by omega), if_pos trivial]
  have hn : need 7 = 99 := rfl
  unfold rdBody
  rw [hn, if_neg (by decide), if_neg (by decide), if_neg (by decide), if_pos rfl, rdN_put _ _ hb]
  simp only [Option.bind_some]
  rw [if_pos (by omega)]; rfl
theorem a_none {c : Int} (h : 1099511627776 < c) (hb : c.toNat < big) : readS 2 (payS (rA c)) = none := by
  have hp : payS (rA c) = encN 0 ++ (encN 18446744073709551615 ++ (encN c.toNat ++ [])) := by
    simp (decide := true) [payS, headS, rA, need]
  unfold readS
  rw [hp, zero_put]
  simp only [Option.bind_some]
  rw [if_neg (by omega), if_pos trivial]
  have hn : need 2 = 119 := rfl
  unfold rdBody
  rw [hn, if_pos rfl, rdN_put _ _ (by unfold big; omega)]
  simp only [Option.bind_some]
  rw [rdN_put _ _ hb]
  simp only [Option.bind_some]
  rw [if_pos (by omega)]; rfl
theorem f_none {op e : Int} (h : 100000 < e) (hb : e.toNat < big) : readS op (payS (rF op e)) = none := by
  have hp : payS (rF op e) = encN e.toNat ++ [] := by
    unfold payS; rw [if_neg (by show ¬ e = 0; omega)]; rfl
  unfold readS
  rw [hp, rdN_put _ _ hb]
  simp only [Option.bind_some]
  rw [if_pos (by omega)]
theorem g_valid {v : Bs} (h : v.length ≤ 65536) : validS (rG v) = true := by
  unfold validS okHead okLen
  simp (decide := true) [rG, onlyR, need, okI, eqR_self, bareR, h]
theorem m_valid {N : Nat} (h1 : 1 ≤ N) (h : N ≤ 16) : validS (rM N) = true := by
  unfold validS okHead okLen
  simp (decide := true) [rM, onlyR, need, okI, itF, eqR_self, bareR]
  omega
theorem n_valid {N : Nat} (h : N ≤ 64) : validS (rN N) = true := by
  unfold validS okHead okLen
  simp (decide := true) [rN, onlyR, need, eqR_self, bareR, h]
theorem d_valid {c : Int} (h0 : 0 ≤ c) (h : c ≤ 1099511627776) : validS (rD c) = true := by
  unfold validS okHead okLen
  simp (decide := true) [rD, onlyR, need, eqR_self, bareR, h0, h]
theorem a_valid {c : Int} (h0 : 0 ≤ c) (h : c ≤ 1099511627776) : validS (rA c) = true := by
  unfold validS okHead okLen
  simp (decide := true) [rA, onlyR, need, eqR_self, bareR, h0, h]
theorem f_valid {op e : Int} (ho : op = 0 ∨ op = 15) (h0 : 0 < e) (h : e ≤ 100000) : validS (rF op e) = true := by
  have hn : e ≠ 0 := by omega
  unfold validS okHead okLen
  have h0' : 0 ≤ e := by omega
  rcases ho with rfl | rfl <;> simp (decide := true) [rF, onlyR, need, eqR_self, bareR, hn, h, h0']
/-- What the law asks of a response. -/
structure Lng (w : World) (x : Res) : Prop where
  rc : RRc w x
  bnd : BndS x
  items : x.items.length ≤ 40
  op : 0 ≤ x.op ∧ x.op ≤ 15
  err : 0 ≤ x.err
  count : 0 ≤ x.count
  mark : ∀ y ∈ x.items, 0 ≤ y.i.mark
  small : SmallR x.r
  pay : (payS x.r).length ≤ 2000000
  no : validS x.r = false → readS x.op (payS x.r) = none
theorem Lng.below {w w' : World} {x : Res} (h : Lng w x) {B : Nat} (hb : Below B w w') (hB : w.heap.size ≤ B) : Lng w' x := ⟨h.rc.below hb hB, h.bnd, h.items, h.op, h.err, h.count, h.mark, h.small, h.pay, h.no⟩
theorem flat_len {α : Type} (f : α → Bs) (B : Nat) : ∀ l : List α, (∀ x ∈ l, (f x).length ≤ B) → (l.flatMap f).length ≤ l.length * B
  | [], _ => by simp
  | x :: r, h => by
    rw [List.flatMap_cons, List.length_append, List.length_cons, Nat.add_mul]
    have h1 := h x (by simp)
    have h2 := flat_len f B r (fun y hy => h y (by simp [hy]))
    omega
theorem pay_small (r : Rsp) (hs : SmallR r) (h1 : r.items.length ≤ 40) (h2 : r.numbers.length ≤ 100) (h3 : ∀ x ∈ r.items, x.value.length ≤ 40000 ∨ (r.items.length ≤ 1 ∧ x.value.length ≤ 70000)) (he : r.err.toNat < big) (hc : r.count.toNat < big) (hm : ∀ x ∈ r.items, x.mark.toNat < big) : (payS r).length ≤ 2000000 := by
  have key : ∀ x ∈ r.items, (encI x).length ≤ 40 + x.value.length := fun x hx => by
    unfold encI
    have a1 := enc_le _ (hm x hx)
    have a2 := enc_le _ (hs.items x hx).1
    have a3 := enc_le _ (hs.items x hx).2
    have hv : x.value.length ≤ 70000 := by rcases h3 x hx with h | h <;> omega
    have a4 := enc_le x.value.length (by unfold big; omega)
    rw [List.length_append]
    split
    · simp; omega
    · unfold encS
      simp only [List.length_append]; omega
  have hi : (r.items.flatMap encI).length ≤ 1700000 := by
    by_cases hl : r.items.length ≤ 1
    · have := flat_len encI 70040 r.items (fun x hx => by
        have := key x hx
        rcases h3 x hx with h | h <;> omega)
      omega
    · have := flat_len encI 40040 r.items (fun x hx => by
        have := key x hx
        rcases h3 x hx with h | h <;> omega)
      have h5 : r.items.length * 40040 ≤ 40 * 40040 := Nat.mul_le_mul_right _ h1
      omega
  have hn : (r.numbers.flatMap encN).length ≤ 1000 := by
    have := flat_len encN 10 r.numbers (fun x hx => enc_le _ (hs.numbers x hx))
    omega
  have e1 := enc_le _ he
  have e2 := enc_le _ hc
  have e3 := enc_le _ hs.version
  have e4 := enc_le r.items.length (by unfold big; omega)
  have e5 := enc_le r.numbers.length (by unfold big; omega)
  have hh : (headS r).length ≤ 20 := by
    unfold headS
    repeat' split
    all_goals (try simp only [List.length_append, List.length_nil])
    all_goals omega
  unfold payS
  rw [List.length_append]
  split
  · simp only [List.length_append]; omega
  · simp; omega
/-! Responses in a row. -/
def resC (x : Res) : List Value := [.int .i64 x.op, .int .i64 x.err, .slice x.IA x.items.length x.ik, .int .u64 (x.version : Int), .int .i64 x.count, .slice x.NA x.numbers.length x.nk]
def rsL (l : List Res) : List Value := l.flatMap resC
theorem rsL_get : ∀ (l : List Res) (j i : Nat) (h : j < l.length) (_ : i < 6), (rsL l)[j * 6 + i]? = (resC l[j])[i]?
  | [], j, _, h, _ => by simp at h
  | x :: r, 0, i, _, hi => by
    have e : rsL (x :: r) = resC x ++ rsL r := by unfold rsL; rw [List.flatMap_cons]
    have hl : (resC x).length = 6 := rfl
    rw [e, List.getElem?_append_left (by rw [hl]; simpa using hi)]; simp
  | x :: r, j + 1, i, h, hi => by
    have e : rsL (x :: r) = resC x ++ rsL r := by unfold rsL; rw [List.flatMap_cons]
    have hl : (resC x).length = 6 := rfl
    rw [e, List.getElem?_append_right (by omega), hl, show (j + 1) * 6 + i - 6 = j * 6 + i from by omega, rsL_get r j i (by simpa using h) hi]
    simp
end Go.Proofs.YthlfahblnpijaaaDoor.Szh
