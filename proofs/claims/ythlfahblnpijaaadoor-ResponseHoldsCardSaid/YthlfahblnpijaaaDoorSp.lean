/- Proves plain facts on how the specification reads a response, number by number, with a mark whether something was wrong. No program. -/
import Derived.Test.YthlfahblnpijaaaDoorVg
import Derived.Test.YthlfahblnpijaaaDoorVp
import Derived.Test.YthlfahblnpijaaaDoorSe
import Derived.Test.YthlfahblnpijaaaDoorVsa
import Derived.Deep.RegionHeld3
namespace Go.Proofs.YthlfahblnpijaaaDoor.Vgr
open Go.RowKit Vm Ap Vw Va Vg

theorem mul_step {acc k d F : Nat} (hF : F = 128 ^ k) (hs : acc + d * 128 ^ k < big) : IntKind.u64.wrap ((acc : Int) + IntKind.u64.wrap ((F : Int) * (d : Int))) = ((acc + d * 128 ^ k : Nat) : Int) := by
  subst hF
  have e : ((128 ^ k : Nat) : Int) * (d : Int) = ((d * 128 ^ k : Nat) : Int) := by rw [← Int.natCast_mul, Nat.mul_comm]
  unfold big at hs
  rw [e, IntKind.wrap_u64, IntKind.wrap_u64]; omega
theorem mul_walk {acc F c : Nat} {x : Int} (h : IntKind.u64.wrap ((acc : Int) + IntKind.u64.wrap ((F : Int) * ((c % 128 : Nat) : Int))) = x) : IntKind.u64.wrap ((acc : Int) + IntKind.u64.wrap ((F : Int) * ((c : Int) % 128))) = x := h
theorem f_step {F k : Nat} (hF : F = 128 ^ k) (hk : k ≤ 8) : F ≤ 72057594037927936 ∧ 128 * F = 128 ^ (k + 1) := by
  have h8 : (128 : Nat) ^ k ≤ 128 ^ 8 := Nat.pow_le_pow_right (by omega) (by omega)
  have e8 : (128 : Nat) ^ 8 = 72057594037927936 := by decide
  rw [Nat.pow_succ]
  omega

end Go.Proofs.YthlfahblnpijaaaDoor.Vgr
namespace Go.Proofs.YthlfahblnpijaaaDoor.Vpr
open Go.RowKit Vm Ap Vw Va Vg Vgr Vc Vp

end Go.Proofs.YthlfahblnpijaaaDoor.Vpr
namespace Go.Proofs.YthlfahblnpijaaaDoor.Sn
open Go.RowKit Vm Ap Vw Va Vg Vgr Vp Vpr Gc Mi Mb Qm Sm Se

/-- The next number, what is left, and whether something was wrong. -/
def nx (l : Bs) (b : Bool) : Nat × Bs × Bool := match rdN l with | some p => (p.1, p.2, b) | none => (0, [], true)
def bx (l : Bs) (b : Bool) : Bs × Bs × Bool := match rdS l with | some p => (p.1, p.2, b) | none => ([], [], true)
theorem nx_some {l r : Bs} {n : Nat} {b : Bool} (h : rdN l = some (n, r)) : nx l b = (n, r, b) := by unfold nx; rw [h]
theorem nx_none {l : Bs} {b : Bool} (h : rdN l = none) : nx l b = (0, [], true) := by unfold nx; rw [h]
theorem bx_some {l r s : Bs} {b : Bool} (h : rdS l = some (s, r)) : bx l b = (s, r, b) := by unfold bx; rw [h]
theorem bx_none {l : Bs} {b : Bool} (h : rdS l = none) : bx l b = ([], [], true) := by unfold bx; rw [h]
def nxPost (w : World) (A0 : Option Addr) (l : Bs) (c0 : Nat) (b0 : Bool) : Ending → World → Prop := fun e w' =>
  ∃ n A r c b, e = .returned (.tuple #[.int .u64 ((n : Nat) : Int), .agg #[.slice A (r : Bs).length c, .bool b]]) ∧ Below w.heap.size w w' ∧ (∀ W, Arg W A0 l c0 → Arg W A r c) ∧ Hid (nx l b0 = (n, r, b)) ∧ n < big ∧ r.length ≤ l.length
def bxPost (w : World) (A0 : Option Addr) (l : Bs) (c0 : Nat) (b0 : Bool) : Ending → World → Prop := fun e w' =>
  ∃ v s A r c b, e = .returned (.tuple #[v, .agg #[.slice A (r : Bs).length c, .bool b]]) ∧ Own w.heap.size w' v s ∧ Below w.heap.size w w' ∧ (∀ W, Arg W A0 l c0 → Arg W A r c) ∧ Hid (bx l b0 = (s, r, b)) ∧ s.length ≤ l.length ∧ r.length ≤ l.length
theorem arg_nil (W : World) : Arg W none [] 0 := ⟨Rb.nil _ _, Nat.le_refl _, by unfold maxLen; omega, fun _ => rfl⟩
theorem set2 (w : World) (g : Nat) (x y : Value) : Only (fun j => j = g) w ((w.setCell ⟨g, 0, none⟩ x).setCell ⟨g, 1, none⟩ y) := ((Only.refl (fun j => j = g) w).put (ad := ⟨g, 0, none⟩) rfl x).put (ad := ⟨g, 1, none⟩) rfl y
theorem set2_below {B : Nat} {w w' : World} {g : Nat} (h : Below B w w') (hg : B ≤ g) (x y : Value) : Below B w ((w'.setCell ⟨g, 0, none⟩ x).setCell ⟨g, 1, none⟩ y) := (h.setCell (by simpa using hg) _).setCell (by simpa using hg) _

end Go.Proofs.YthlfahblnpijaaaDoor.Sn
namespace Go.Proofs.YthlfahblnpijaaaDoor.Sp
open Go.RowKit Vm Qm Sm Sn

theorem nx_cases {l r : Bs} {n : Nat} {b c : Bool} (h : nx l b = (n, r, c)) : (rdN l = some (n, r) ∧ c = b) ∨ (rdN l = none ∧ n = 0 ∧ r = [] ∧ c = true) := by
  cases h1 : rdN l with
  | none =>
    rw [nx_none h1] at h
    simp only [Prod.mk.injEq] at h
    exact Or.inr ⟨rfl, h.1.symm, h.2.1.symm, h.2.2.symm⟩
  | some p =>
    obtain ⟨n1, r1⟩ := p
    rw [nx_some h1] at h
    simp only [Prod.mk.injEq] at h
    obtain ⟨rfl, rfl, rfl⟩ := h
    exact Or.inl ⟨rfl, rfl⟩
theorem bx_cases {l r s : Bs} {b c : Bool} (h : bx l b = (s, r, c)) : (rdS l = some (s, r) ∧ c = b) ∨ (rdS l = none ∧ s = [] ∧ r = [] ∧ c = true) := by
  cases h1 : rdS l with
  | none =>
    rw [bx_none h1] at h
    simp only [Prod.mk.injEq] at h
    exact Or.inr ⟨rfl, h.1.symm, h.2.1.symm, h.2.2.symm⟩
  | some p =>
    obtain ⟨n1, r1⟩ := p
    rw [bx_some h1] at h
    simp only [Prod.mk.injEq] at h
    obtain ⟨rfl, rfl, rfl⟩ := h
    exact Or.inl ⟨rfl, rfl⟩
def contI (b : Bool) (m : Nat) (ys : List Itm) (l : Bs) : Option (List Itm × Bs) := if b then none else (rdIs m l).map fun q => (ys ++ q.1, q.2)
def contN (b : Bool) (m : Nat) (ns : List Nat) (l : Bs) : Option (List Nat × Bs) := if b then none else (rdNs m l).map fun q => (ns ++ q.1, q.2)
theorem contI_end (b : Bool) (ys : List Itm) (l : Bs) : contI b 0 ys l = if b then none else some (ys, l) := by unfold contI rdIs; cases b <;> simp
theorem contN_end (b : Bool) (ns : List Nat) (l : Bs) : contN b 0 ns l = if b then none else some (ns, l) := by unfold contN rdNs; cases b <;> simp
theorem contI_bad (m : Nat) (ys : List Itm) (l : Bs) : contI true m ys l = none := rfl
theorem contN_bad (m : Nat) (ns : List Nat) (l : Bs) : contN true m ns l = none := rfl
theorem contI_no {m : Nat} {ys : List Itm} {l : Bs} {b : Bool} (h : rdI l = none) : contI b (m + 1) ys l = none := by
  unfold contI rdIs; rw [h]; cases b <;> rfl
theorem contI_ok {m : Nat} {ys : List Itm} {l r : Bs} {y : Itm} {b : Bool} (h : rdI l = some (y, r)) : contI b (m + 1) ys l = contI b m (ys ++ [y]) r := by
  unfold contI; rw [rdIs, h]
  cases b
  · simp only [Bool.false_eq_true, if_false, Option.bind_some, Option.map_map]
    congr 1
    funext q; simp
  · rfl
theorem itm_zero {l r : Bs} {b b1 : Bool} {m : Nat} {ys : List Itm} (h : nx l b = (0, r, b1)) : contI b (m + 1) ys l = contI b1 m (ys ++ [zeroI]) r := by
  rcases nx_cases h with ⟨h1, rfl⟩ | ⟨h1, _, _, rfl⟩
  · exact contI_ok (by unfold rdI; rw [h1]; simp)
  · rw [contI_bad]; exact contI_no (by unfold rdI; rw [h1]; rfl)
theorem itm_big {l r : Bs} {b b1 : Bool} {m v : Nat} {ys : List Itm} (h : nx l b = (v, r, b1)) (hv : 2 < v) : contI b (m + 1) ys l = none := by
  rcases nx_cases h with ⟨h1, rfl⟩ | ⟨h1, h2, _, rfl⟩
  · exact contI_no (by unfold rdI; rw [h1]; simp only [Option.bind_some]; rw [if_pos hv])
  · omega
theorem itm_full {l r r1 r2 r3 s : Bs} {b b1 b2 b3 b4 : Bool} {m v n1 n2 : Nat} {ys : List Itm} (h : nx l b = (v, r, b1)) (hv : v ≤ 2) (hv0 : v ≠ 0) (h1 : nx r b1 = (n1, r1, b2)) (h2 : nx r1 b2 = (n2, r2, b3)) (h3 : bx r2 b3 = (s, r3, b4)) :
    contI b (m + 1) ys l = contI b4 m (ys ++ [⟨(v : Int), s, n1, n2⟩]) r3 := by
  rcases nx_cases h with ⟨e1, rfl⟩ | ⟨_, e2, _, _⟩
  · have hr : rdI l = (rdN r).bind fun v2 => (rdN v2.2).bind fun d => (rdS d.2).map fun s => (({ mark := (v : Int), value := s.1, version := v2.1, dead := d.1 } : Itm), s.2) := by
      unfold rdI; rw [e1]; simp only [Option.bind_some]; rw [if_neg (by omega), if_neg hv0]
    rcases nx_cases h1 with ⟨e3, rfl⟩ | ⟨e3, _, rfl, rfl⟩
    · rcases nx_cases h2 with ⟨e4, rfl⟩ | ⟨e4, _, rfl, rfl⟩
      · rcases bx_cases h3 with ⟨e5, rfl⟩ | ⟨e5, _, rfl, rfl⟩
        · exact contI_ok (by rw [hr, e3]; simp only [Option.bind_some]; rw [e4]; simp only [Option.bind_some]; rw [e5]; rfl)
        · rw [contI_bad]; exact contI_no (by rw [hr, e3]; simp only [Option.bind_some]; rw [e4]; simp only [Option.bind_some]; rw [e5]; rfl)
      · have hb : b4 = true := by rcases bx_cases h3 with ⟨_, e⟩ | ⟨_, _, _, e⟩ <;> exact e
        rw [hb, contI_bad]; exact contI_no (by rw [hr, e3]; simp only [Option.bind_some]; rw [e4]; rfl)
    · have hb3 : b3 = true := by rcases nx_cases h2 with ⟨_, e⟩ | ⟨_, _, _, e⟩ <;> exact e
      have hb : b4 = true := by rcases bx_cases h3 with ⟨_, e⟩ | ⟨_, _, _, e⟩ <;> simp_all
      rw [hb, contI_bad]; exact contI_no (by rw [hr, e3]; rfl)
  · exact absurd e2 hv0
theorem num_step {l r : Bs} {b b1 : Bool} {m v : Nat} {ns : List Nat} (h : nx l b = (v, r, b1)) : contN b (m + 1) ns l = contN b1 m (ns ++ [v]) r := by
  rcases nx_cases h with ⟨h1, rfl⟩ | ⟨h1, _, _, rfl⟩
  · unfold contN; rw [rdNs, h1]
    cases b1
    · simp only [Bool.false_eq_true, if_false, Option.bind_some, Option.map_map]
      congr 1
      funext q; simp
    · rfl
  · rw [contN_bad]; unfold contN; rw [rdNs, h1]; cases b <;> rfl
def finS (x : Rsp × Bs) : Option Rsp := if x.2 = [] ∧ validS x.1 = true then some x.1 else none
theorem first_big {op : Int} {p r : Bs} {n : Nat} {b : Bool} (h : nx p false = (n, r, b)) (hn : 100000 < n) : readS op p = none := by
  rcases nx_cases h with ⟨h1, rfl⟩ | ⟨h1, h2, _, _⟩
  · unfold readS; rw [h1]; simp only [Option.bind_some]; rw [if_pos hn]
  · omega
theorem first_err {op : Int} {p r : Bs} {n : Nat} {b : Bool} (h : nx p false = (n, r, b)) (hn : n ≤ 100000) (h0 : n ≠ 0) : readS op p = if b then none else finS (bareR op (n : Int), r) := by
  rcases nx_cases h with ⟨h1, rfl⟩ | ⟨h1, h2, _, _⟩
  · unfold readS; rw [h1]; simp only [Option.bind_some]; rw [if_neg (by omega), if_neg h0]; rfl
  · omega
theorem first_ok {op : Int} {p r : Bs} {b : Bool} (h : nx p false = (0, r, b)) : readS op p = (if b then none else rdBody op r).bind finS := by
  rcases nx_cases h with ⟨h1, rfl⟩ | ⟨h1, _, _, rfl⟩
  · unfold readS; rw [h1]; simp only [Option.bind_some]; rw [if_neg (by omega)]; rfl
  · unfold readS; rw [h1]; rfl
theorem head_w {op : Int} {l l1 l2 : Bs} {b b1 b2 : Bool} {v n : Nat} (q : need op = 119) (h1 : nx l b = (v, l1, b1)) (h2 : nx l1 b1 = (n, l2, b2)) : (if b then none else rdBody op l).bind finS = if 1099511627776 < n then none else if b2 then none else finS ({ bareR op 0 with version := v, count := (n : Int) }, l2) := by
  rcases nx_cases h1 with ⟨e1, rfl⟩ | ⟨e1, _, rfl, rfl⟩
  · rcases nx_cases h2 with ⟨e2, rfl⟩ | ⟨e2, rfl, rfl, rfl⟩
    · cases b2
      · simp (decide := true) only [rdBody, q, if_true, if_false]
        rw [e1]; simp only [Option.bind_some]; rw [e2]; simp only [Option.bind_some]
        split <;> rfl
      · simp
    · cases b1
      · simp (decide := true) only [rdBody, q, if_true, if_false]
        rw [e1]; simp only [Option.bind_some]; rw [e2]; simp
      · simp
  · have hb : b2 = true ∧ n = 0 := by
      rcases nx_cases h2 with ⟨e2, e⟩ | ⟨_, e2, _, e⟩
      · have : rdN [] = none := rfl
        rw [this] at e2; cases e2
      · exact ⟨e, e2⟩
    rw [hb.1, hb.2]
    cases b
    · simp (decide := true) only [rdBody, q, if_true, if_false]
      rw [e1]; simp
    · simp
theorem head_c {op : Int} {l l1 : Bs} {b b1 : Bool} {n : Nat} (q : need op = 99) (h1 : nx l b = (n, l1, b1)) : (if b then none else rdBody op l).bind finS = if 1099511627776 < n then none else if b1 then none else finS ({ bareR op 0 with count := (n : Int) }, l1) := by
  rcases nx_cases h1 with ⟨e1, rfl⟩ | ⟨e1, rfl, rfl, rfl⟩
  · cases b1
    · simp (decide := true) only [rdBody, q, if_true, if_false]
      rw [e1]; simp only [Option.bind_some]
      split <;> rfl
    · simp
  · cases b
    · simp (decide := true) only [rdBody, q, if_true, if_false]
      rw [e1]; simp
    · simp
theorem head_i {op : Int} {l : Bs} {b : Bool} (q : need op = 105) : (if b then none else rdBody op l).bind finS = (contI b 1 [] l).bind fun z => finS ({ bareR op 0 with items := z.1 }, z.2) := by
  cases b
  · simp (decide := true) only [rdBody, q, if_true, if_false, contI]
    cases rdIs 1 l <;> simp
  · rfl
theorem head_m {op : Int} {l l1 : Bs} {b b1 : Bool} {k : Nat} (q : need op = 109) (h1 : nx l b = (k, l1, b1)) : (if b then none else rdBody op l).bind finS = if 16 < k then none else (contI b1 k [] l1).bind fun z => finS ({ bareR op 0 with items := z.1 }, z.2) := by
  rcases nx_cases h1 with ⟨e1, rfl⟩ | ⟨e1, rfl, rfl, rfl⟩
  · cases b1
    · simp (decide := true) only [rdBody, q, if_true, if_false, contI]
      rw [e1]; simp only [Option.bind_some]
      split
      · rfl
      · cases rdIs k l1 <;> simp
    · simp [contI]
  · cases b
    · simp (decide := true) only [rdBody, q, if_true, if_false, contI]
      rw [e1]; simp
    · simp [contI]
theorem head_n {op : Int} {l l1 : Bs} {b b1 : Bool} {k : Nat} (q : need op = 110) (h1 : nx l b = (k, l1, b1)) : (if b then none else rdBody op l).bind finS = if 64 < k then none else (contN b1 k [] l1).bind fun z => finS ({ bareR op 0 with numbers := z.1 }, z.2) := by
  rcases nx_cases h1 with ⟨e1, rfl⟩ | ⟨e1, rfl, rfl, rfl⟩
  · cases b1
    · simp (decide := true) only [rdBody, q, if_false, contN]
      rw [e1]; simp only [Option.bind_some]
      split
      · rfl
      · cases rdNs k l1 <;> simp
    · simp [contN]
  · cases b
    · simp (decide := true) only [rdBody, q, if_false, contN]
      rw [e1]; simp
    · simp [contN]
/-- The response of a frame, by its code. -/
def readF (c : Nat) (p : Bs) : Option Rsp := if 64 ≤ c ∧ c ≤ 79 then readS ((c : Int) - 64) p else none
end Go.Proofs.YthlfahblnpijaaaDoor.Sp
