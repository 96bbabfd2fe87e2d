/- Proves words for a command that is put together part by part, out of a reader. Conditions: few bytes. -/
import Derived.Test.YtefadkdngcbpiaaDoorQd
import Derived.Test.YtefadkdngcbpiaaDoorQy
namespace Go.Proofs.YtefadkdngcbpiaaDoor.Qc
open Go.RowKit Vm Ap Vw Va Vc Vp Vn Vs Gc Mi Mb Qm Qs Qe Qd Qy

theorem Box_set0 {w : World} {g : Nat} {x : Com} (h : Box w g x) (p : Bs) : Box (w.setCell ⟨g, 1, none⟩ (.string ⟨p.toArray⟩)) g { x with c := { x.c with key := p } } :=
  ⟨by simp [go_sem, h.c0], by simp [go_sem, h.c1], by simp [go_sem, h.c2], by simp [go_sem, h.c3], by simp [go_sem, h.c4], by simp [go_sem, h.c5], by simp [go_sem, h.c6], by simp [go_sem, h.c7], by simp [go_sem, h.c8], by simp [go_sem, h.c9], fun j => by simp [go_sem, h.un]⟩
theorem Box_set1 {w : World} {g : Nat} {x : Com} (h : Box w g x) (p : Bs) : Box (w.setCell ⟨g, 9, none⟩ (.string ⟨p.toArray⟩)) g { x with c := { x.c with child := p } } :=
  ⟨by simp [go_sem, h.c0], by simp [go_sem, h.c1], by simp [go_sem, h.c2], by simp [go_sem, h.c3], by simp [go_sem, h.c4], by simp [go_sem, h.c5], by simp [go_sem, h.c6], by simp [go_sem, h.c7], by simp [go_sem, h.c8], by simp [go_sem, h.c9], fun j => by simp [go_sem, h.un]⟩
theorem Box_set2 {w : World} {g : Nat} {x : Com} (h : Box w g x) (ls : List Bs) (X : Option Addr) (d : Nat) : Box (w.setCell ⟨g, 2, none⟩ (.slice X ls.length d)) g { x with c := { x.c with keys := ls }, KA := X, kc := d } :=
  ⟨by simp [go_sem, h.c0], by simp [go_sem, h.c1], by simp [go_sem, h.c2], by simp [go_sem, h.c3], by simp [go_sem, h.c4], by simp [go_sem, h.c5], by simp [go_sem, h.c6], by simp [go_sem, h.c7], by simp [go_sem, h.c8], by simp [go_sem, h.c9], fun j => by simp [go_sem, h.un]⟩
theorem Box_set3 {w : World} {g : Nat} {x : Com} (h : Box w g x) (p : Bs) (X : Option Addr) (d : Nat) : Box (w.setCell ⟨g, 3, none⟩ (.slice X p.length d)) g { x with c := { x.c with value := p }, VA := X, vc := d } :=
  ⟨by simp [go_sem, h.c0], by simp [go_sem, h.c1], by simp [go_sem, h.c2], by simp [go_sem, h.c3], by simp [go_sem, h.c4], by simp [go_sem, h.c5], by simp [go_sem, h.c6], by simp [go_sem, h.c7], by simp [go_sem, h.c8], by simp [go_sem, h.c9], fun j => by simp [go_sem, h.un]⟩
theorem Box_set4 {w : World} {g : Nat} {x : Com} (h : Box w g x) (ls : List Bs) (X : Option Addr) (d : Nat) : Box (w.setCell ⟨g, 4, none⟩ (.slice X ls.length d)) g { x with c := { x.c with tags := ls }, TA := X, tc := d } :=
  ⟨by simp [go_sem, h.c0], by simp [go_sem, h.c1], by simp [go_sem, h.c2], by simp [go_sem, h.c3], by simp [go_sem, h.c4], by simp [go_sem, h.c5], by simp [go_sem, h.c6], by simp [go_sem, h.c7], by simp [go_sem, h.c8], by simp [go_sem, h.c9], fun j => by simp [go_sem, h.un]⟩
theorem Box_set5 {w : World} {g : Nat} {x : Com} (h : Box w g x) (n : Nat) : Box (w.setCell ⟨g, 5, none⟩ (.int .u64 (n : Int))) g { x with c := { x.c with life := n } } :=
  ⟨by simp [go_sem, h.c0], by simp [go_sem, h.c1], by simp [go_sem, h.c2], by simp [go_sem, h.c3], by simp [go_sem, h.c4], by simp [go_sem, h.c5], by simp [go_sem, h.c6], by simp [go_sem, h.c7], by simp [go_sem, h.c8], by simp [go_sem, h.c9], fun j => by simp [go_sem, h.un]⟩
theorem Box_set6 {w : World} {g : Nat} {x : Com} (h : Box w g x) (n : Nat) : Box (w.setCell ⟨g, 6, none⟩ (.int .u64 (n : Int))) g { x with c := { x.c with version := n } } :=
  ⟨by simp [go_sem, h.c0], by simp [go_sem, h.c1], by simp [go_sem, h.c2], by simp [go_sem, h.c3], by simp [go_sem, h.c4], by simp [go_sem, h.c5], by simp [go_sem, h.c6], by simp [go_sem, h.c7], by simp [go_sem, h.c8], by simp [go_sem, h.c9], fun j => by simp [go_sem, h.un]⟩
theorem Box_set7 {w : World} {g : Nat} {x : Com} (h : Box w g x) (p : Bs) : Box (w.setCell ⟨g, 7, none⟩ (.string ⟨p.toArray⟩)) g { x with c := { x.c with tag := p } } :=
  ⟨by simp [go_sem, h.c0], by simp [go_sem, h.c1], by simp [go_sem, h.c2], by simp [go_sem, h.c3], by simp [go_sem, h.c4], by simp [go_sem, h.c5], by simp [go_sem, h.c6], by simp [go_sem, h.c7], by simp [go_sem, h.c8], by simp [go_sem, h.c9], fun j => by simp [go_sem, h.un]⟩
theorem Box_set8 {w : World} {g : Nat} {x : Com} (h : Box w g x) (p : Bs) : Box (w.setCell ⟨g, 8, none⟩ (.string ⟨p.toArray⟩)) g { x with c := { x.c with pre := p } } :=
  ⟨by simp [go_sem, h.c0], by simp [go_sem, h.c1], by simp [go_sem, h.c2], by simp [go_sem, h.c3], by simp [go_sem, h.c4], by simp [go_sem, h.c5], by simp [go_sem, h.c6], by simp [go_sem, h.c7], by simp [go_sem, h.c8], by simp [go_sem, h.c9], fun j => by simp [go_sem, h.un]⟩
theorem Rq.low {B C : Nat} {w w' : World} {g h : Nat} {st : Option Bs} (q : Rq B w g h st) (hb : Below C w w') (hg : g < C) (hh : h < C) : Rq B w' g h st := by
  obtain ⟨l, hr, h1, h2⟩ := q.rd
  exact ⟨by rw [hb.block h hh]; exact q.hd, l, hr.low hb hg, h1, h2⟩
/-- One part more: what is left, and what the command is. -/
theorem more_part {α : Type} (rd : Bs → Option (α × Bs)) {R : Option (Cmd × Bs)} {c : Cmd} {st : Option Bs} (hst : st = R.map (·.2)) (hc : ∀ q, R = some q → q.1 = c) {y : UInt8} (upd : Cmd → α → Cmd)
    (hy : ∀ c l, rdPart c y l = (rd l).map fun p => (upd c p.1, p.2)) {v : α} (hv : ∀ q, st.bind rd = some q → q.1 = v) :
    (st.bind rd).map (·.2) = (R.bind fun p => rdPart p.1 y p.2).map (·.2) ∧ ∀ q, (R.bind fun p => rdPart p.1 y p.2) = some q → q.1 = upd c v := by
  subst hst
  cases R with
  | none => exact ⟨rfl, fun q h => by cases h⟩
  | some p =>
    obtain ⟨c0, l⟩ := p
    have e := hc (c0, l) rfl
    simp only at e
    subst e
    simp only [Option.map_some, Option.bind_some, hy] at hv ⊢
    cases h : rd l with
    | none => exact ⟨rfl, fun q h => by cases h⟩
    | some z =>
      have := hv z h
      refine ⟨rfl, fun q hq => ?_⟩
      simp only [Option.map_some, Option.some.injEq] at hq
      subst hq
      rw [← this]
theorem put10 (w : World) (g : Nat) (a b c d e f i j k l : Value) : Only (fun q => q = g) w ((((((((((w.setCell ⟨g, 0, none⟩ a).setCell ⟨g, 1, none⟩ b).setCell ⟨g, 2, none⟩ c).setCell ⟨g, 3, none⟩ d).setCell ⟨g, 4, none⟩ e).setCell ⟨g, 5, none⟩ f).setCell ⟨g, 6, none⟩ i).setCell ⟨g, 7, none⟩ j).setCell ⟨g, 8, none⟩ k).setCell ⟨g, 9, none⟩ l) :=
  ((((((((((Only.refl (fun q => q = g) w).put (ad := ⟨g, 0, none⟩) rfl _).put (ad := ⟨g, 1, none⟩) rfl _).put (ad := ⟨g, 2, none⟩) rfl _).put (ad := ⟨g, 3, none⟩) rfl _).put (ad := ⟨g, 4, none⟩) rfl _).put (ad := ⟨g, 5, none⟩) rfl _).put (ad := ⟨g, 6, none⟩) rfl _).put (ad := ⟨g, 7, none⟩) rfl _).put (ad := ⟨g, 8, none⟩) rfl _).put (ad := ⟨g, 9, none⟩) rfl _
def zeroC : Com := { c := bare 0, KA := none, kc := 0, VA := none, vc := 0, TA := none, tc := 0 }
def startC (op : Int) : Com := { c := bare op, KA := none, kc := 0, VA := none, vc := 0, TA := none, tc := 0 }
/-- What a command that has been read gives: it is bounded, and lies in new memory. -/
structure Got (B : Nat) (w : World) (x : Com) : Prop where
  rc : Rc w x
  bnd : Bnd x.c
  nk : x.c.keys.length ≤ 16
  nt : x.c.tags.length ≤ 16
  bk : ∀ a, x.KA = some a → B ≤ a.block ∧ a.block < w.heap.size
  bv : ∀ a, x.VA = some a → B ≤ a.block ∧ a.block < w.heap.size
  bt : ∀ a, x.TA = some a → B ≤ a.block ∧ a.block < w.heap.size
def tkC (B : Nat) (w : World) (g h : Nat) (R : Option (Cmd × Bs)) : Ending → World → Prop := fun e w' =>
  ∃ x, e = .returned (comV x) ∧ Got w.heap.size w' x ∧ (∀ q, R = some q → q.1 = x.c) ∧ Rq B w' g h (R.map (·.2)) ∧ Only (Two g h) w w'
end Go.Proofs.YtefadkdngcbpiaaDoor.Qc
