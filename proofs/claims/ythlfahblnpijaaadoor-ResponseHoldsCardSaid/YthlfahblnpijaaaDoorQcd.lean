/- Proves what the reader's command returns, for every Op. Conditions: the table is laid; few bytes. -/
import Derived.Test.YthlfahblnpijaaaDoorQd
import Derived.Test.YthlfahblnpijaaaDoorQy
namespace Go.Proofs.YthlfahblnpijaaaDoor.Qc
open Go.RowKit Vm Ap Vw Va Vc Vp Vn Vs Gc Mi Mb Qm Qs Qe Qd Qy

theorem Box_set0 {w : World} {g : Nat} {x : Com} (h : Box w g x) (p : Bs) : Box (w.setCell ⟨g, 1, none⟩ (.string ⟨p.toArray⟩)) g { x with c := { x.c with key := p } } :=
  ⟨by simp [go_sem, h.c0], by simp [go_sem, h.c1], by simp [go_sem, h.c2], by simp [go_sem, h.c3], by simp [go_sem, h.c4], by simp [go_sem, h.c5], by simp [go_sem, h.c6], by simp [go_sem, h.c7], by simp [go_sem, h.c8], by simp [go_sem, h.c9], fun j => by simp [go_sem, h.un]⟩
theorem Box_set1 {w : World} {g : Nat} {x : Com} (h : Box w g x) (p : Bs) : Box (w.setCell ⟨g, 9, none⟩ (.string ⟨p.toArray⟩)) g { x with c := { x.c with child := p } } :=
  ⟨by simp [go_sem, h.c0], by simp [go_sem, h.c1], by simp [go_sem, h.c2], by simp [go_sem, h.c3], by simp [go_sem, h.c4], by simp [go_sem, h.c5], by simp [go_sem, h.c6], by simp [go_sem, h.c7], by simp [go_sem, h.c8], by simp [go_sem, h.c9], fun j => by simp [go_sem, h.un]⟩
theorem Box_set2 {w : World} {g : Nat} {x : Com} (h : Box w g x) (ls : List Bs) (X : Option Addr) (d : Nat) : Box (w.setCell ⟨g, 2, none⟩ (.slice X ls.length d)) g { x with c := { x.c with keys := ls }, KA := X, kc := d } :=
  ⟨by simp [go_sem, h.c0], by simp [go_sem, h.c1], by simp [go_sem, h.c2], by simp [go_sem, h.c3], by simp [go_sem, h.c4], by simp [go_sem, h.c5], by simp [go_sem, h.c6], by simp [go_sem, h.c7], by simp [go_sem, h.c8], by simp [go_sem, h.c9], fun j => by simp [go_sem, h.un]⟩
theorem Box_set3 {w : World} {g : Nat} {x : Com} (h : Box w g x) (p : Bs) (X : Option Addr) (d : Nat) : Box (w.setCell ⟨g, 3, none⟩ (.slice X p.length d)) g { x with c := { x.c with value := p }, VA := X, vc := d } :=
  ⟨by simp [go_sem, h.c0], by simp [go_sem, h.c1], by simp [go_sem, h.c2], by simp [go_sem, h.c3], by simp [go_sem, h.c4], by simp [go_sem, h.c5], by simp [go_sem, h.c6], by simp [go_sem, h.c7], by simp [go_sem, h.c8], by simp [go_sem, h.c9], fun j => by simp [go_sem, h.un]⟩
theorem Box_set4 {w : World} {g : Nat} {x : Com} (h : Box w g x) (ls : List Bs) (X : Option Addr) (d : Nat) : Box (w.setCell ⟨g, 4, none⟩ (.slice X ls.length d)) g { x with c := { x.c with tags := ls }, TA := X, tc := d } :=
  ⟨by simp [go_sem, h.c0], by simp [go_sem, h.c1], by simp [go_sem, h.c2], by simp [go_sem, h.c3], by simp [go_sem, h.c4], by simp [go_sem, h.c5], by simp [go_sem, h.c6], by simp [go_sem, h.c7], by simp [go_sem, h.c8], by simp [go_sem, h.c9], fun j => by simp [go_sem, h.un]⟩
theorem Box_set5 {w : World} {g : Nat} {x : Com} (h : Box w g x) (n : Nat) : Box (w.setCell ⟨g, 5, none⟩ (.int .u64 (n : Int))) g { x with c := { x.c with life := n } } :=
  ⟨by simp [go_sem, h.c0], by simp [go_sem, h.c1], by simp [go_sem, h.c2], by simp [go_sem, h.c3], by simp [go_sem, h.c4], by simp [go_sem, h.c5], by simp [go_sem, h.c6], by simp [go_sem, h.c7], by simp [go_sem, h.c8], by simp [go_sem, h.c9], fun j => by simp [go_sem, h.un]⟩
theorem Box_set6 {w : World} {g : Nat} {x : Com} (h : Box w g x) (n : Nat) : Box (w.setCell ⟨g, 6, none⟩ (.int .u64 (n : Int))) g { x with c := { x.c with version := n } } :=
  ⟨by simp [go_sem, h.c0], by simp [go_sem, h.c1], by simp [go_sem, h.c2], by simp [go_sem, h.c3], by simp [go_sem, h.c4], by simp [go_sem, h.c5], by simp [go_sem, h.c6], by simp [go_sem, h.c7], by simp [go_sem, h.c8], by simp [go_sem, h.c9], fun j => by simp [go_sem, h.un]⟩
theorem Box_set7 {w : World} {g : Nat} {x : Com} (h : Box w g x) (p : Bs) : Box (w.setCell ⟨g, 7, none⟩ (.string ⟨p.toArray⟩)) g { x with c := { x.c with tag := p } } :=
  ⟨by simp [go_sem, h.c0], by simp [go_sem, h.c1], by simp [go_sem, h.c2], by simp [go_sem, h.c3], by simp [go_sem, h.c4], by simp [go_sem, h.c5], by simp [go_sem, h.c6], by simp [go_sem, h.c7], by simp [go_sem, h.c8], by simp [go_sem, h.c9], fun j => by simp [go_sem, h.un]⟩
theorem Box_set8 {w : World} {g : Nat} {x : Com} (h : Box w g x) (p : Bs) : Box (w.setCell ⟨g, 8, none⟩ (.string ⟨p.toArray⟩)) g { x with c := { x.c with pre := p } } :=
  ⟨by simp [go_sem, h.c0], by simp [go_sem, h.c1], by simp [go_sem, h.c2], by simp [go_sem, h.c3], by simp [go_sem, h.c4], by simp [go_sem, h.c5], by simp [go_sem, h.c6], by simp [go_sem, h.c7], by simp [go_sem, h.c8], by simp [go_sem, h.c9], fun j => by simp [go_sem, h.un]⟩
theorem Rq.low {B C : Nat} {w w' : World} {g h : Nat} {st : Option Bs} (q : Rq B w g h st) (hb : Below C w w') (hg : g < C) (hh : h < C) : Rq B w' g h st := by
  obtain ⟨l, hr, h1, h2⟩ := q.rd
  exact ⟨by rw [hb.block h hh]; exact q.hd, l, hr.low hb hg, h1, h2⟩
/-- One part more: what is left, and what the command is. -/
theorem more_part {α : Type} (rd : Bs → Option (α × Bs)) {R : Option (Cmd × Bs)} {c : Cmd} {st : Option Bs} (hst : st = R.map (·.2)) (hc : ∀ q, R = some q → q.1 = c) {y : UInt8} (upd : Cmd → α → Cmd)
    (hy : ∀ c l, rdPart c y l = (rd l).map fun p => (upd c p.1, p.2)) {v : α} (hv : ∀ q, st.bind rd = some q → q.1 = v) :
    (st.bind rd).map (·.2) = (R.bind fun p => rdPart p.1 y p.2).map (·.2) ∧ ∀ q, (R.bind fun p => rdPart p.1 y p.2) = some q → q.1 = upd c v := by
  subst hst
  cases R with
  | none => exact ⟨rfl, fun q h => by cases h⟩
  | some p =>
    obtain ⟨c0, l⟩ := p
    have e := hc (c0, l) rfl
    simp only at e
    subst e
    simp only [Option.map_some, Option.bind_some, hy] at hv ⊢
    cases h : rd l with
    | none => exact ⟨rfl, fun q h => by cases h⟩
    | some z =>
      have := hv z h
      refine ⟨rfl, fun q hq => ?_⟩
      simp only [Option.map_some, Option.some.injEq] at hq
      subst hq
      rw [← this]
theorem put10 (w : World) (g : Nat) (a b c d e f i j k l : Value) : Only (fun q => q = g) w ((((((((((w.setCell ⟨g, 0, none⟩ a).setCell ⟨g, 1, none⟩ b).setCell ⟨g, 2, none⟩ c).setCell ⟨g, 3, none⟩ d).setCell ⟨g, 4, none⟩ e).setCell ⟨g, 5, none⟩ f).setCell ⟨g, 6, none⟩ i).setCell ⟨g, 7, none⟩ j).setCell ⟨g, 8, none⟩ k).setCell ⟨g, 9, none⟩ l) :=
  ((((((((((Only.refl (fun q => q = g) w).put (ad := ⟨g, 0, none⟩) rfl _).put (ad := ⟨g, 1, none⟩) rfl _).put (ad := ⟨g, 2, none⟩) rfl _).put (ad := ⟨g, 3, none⟩) rfl _).put (ad := ⟨g, 4, none⟩) rfl _).put (ad := ⟨g, 5, none⟩) rfl _).put (ad := ⟨g, 6, none⟩) rfl _).put (ad := ⟨g, 7, none⟩) rfl _).put (ad := ⟨g, 8, none⟩) rfl _).put (ad := ⟨g, 9, none⟩) rfl _
def zeroC : Com := { c := bare 0, KA := none, kc := 0, VA := none, vc := 0, TA := none, tc := 0 }
def startC (op : Int) : Com := { c := bare op, KA := none, kc := 0, VA := none, vc := 0, TA := none, tc := 0 }
/-- What a command that has been read gives: it is bounded, and lies in new memory. -/
structure Got (B : Nat) (w : World) (x : Com) : Prop where
  rc : Rc w x
  bnd : Bnd x.c
  nk : x.c.keys.length ≤ 16
  nt : x.c.tags.length ≤ 16
  bk : ∀ a, x.KA = some a → B ≤ a.block ∧ a.block < w.heap.size
  bv : ∀ a, x.VA = some a → B ≤ a.block ∧ a.block < w.heap.size
  bt : ∀ a, x.TA = some a → B ≤ a.block ∧ a.block < w.heap.size
def tkC (B : Nat) (w : World) (g h : Nat) (R : Option (Cmd × Bs)) : Ending → World → Prop := fun e w' =>
  ∃ x, e = .returned (comV x) ∧ Got w.heap.size w' x ∧ (∀ q, R = some q → q.1 = x.c) ∧ Rq B w' g h (R.map (·.2)) ∧ Only (Two g h) w w'
end Go.Proofs.YthlfahblnpijaaaDoor.Qc
namespace Go.Proofs.YthlfahblnpijaaaDoor.Qc
open Go.RowKit Vm Ap Vw Va Vc Vp Vn Vs Gc Mi Mb Qm Qs Qe Qd Qy

set_option maxRecDepth 100000 in
set_option maxHeartbeats 4000000 in
theorem cmd57 (B k : Nat) (hk : k < 15) (hm : maskN k = 57) (p : Bs) (w : World) (g h : Nat) (he : Env w) (hq : Rq B w g h (some p)) :
    Calls Tryd.prog 25 #[.pointer (some ⟨h, 0, none⟩), .int .i64 ((k : Int) + 1)] w (tkC B w g h (rdAll [107, 118, 116, 108] (bare ((k : Int) + 1)) p)) := by
  have hmk := he.mask k hk
  rw [hm] at hmk
  have hg0 := he.size
  have hhl := hq.lt
  have hgl : g < w.heap.size := by obtain ⟨l, hr, _⟩ := hq.rd; exact hr.lt
  obtain ⟨w0, hw0⟩ : ∃ w0, w0 = (w.alloc (comO zeroC)).alloc (comO (startC ((k : Int) + 1))) := ⟨_, rfl⟩
  have B0 : Below w.heap.size w w0 := by rw [hw0]; exact two_below _ _ _
  have BX0 : Hid (Box w0 (w.heap.size + 1) (startC ((k : Int) + 1))) := by
    have hb := Box.new (w.alloc (comO zeroC)) (startC ((k : Int) + 1))
    have e : (w.alloc (comO zeroC)).heap.size = w.heap.size + 1 := by simp
    rw [e] at hb
    show Box _ _ _
    rw [hw0]; exact hb
  have BZ0 : Hid (Box w0 w.heap.size zeroC) := by show Box _ _ _; rw [hw0]; exact (Box.new w zeroC).below (alloc_below _ _) (Nat.le_refl _)
  have RQ0 := Lib.hid (hq.below B0 (Nat.le_refl _))
  have HT0 : Hid (Only (Two g h) w w0) := Only.of_below B0 (Nat.le_refl _) _
  have hz0 : w.heap.size + 2 ≤ w0.heap.size := by rw [hw0]; simp
  have ST0 : Hid ((some p) = (rdAll [] (bare ((k : Int) + 1)) p).map (·.2) ∧ ∀ q, rdAll [] (bare ((k : Int) + 1)) p = some q → q.1 = (startC ((k : Int) + 1)).c) := ⟨rfl, fun q hq => by cases hq; rfl⟩
  have e0 : comO zeroC = .cells #[.int .i64 0, .string ⟨#[]⟩, .slice none 0 0, .slice none 0 0, .slice none 0 0, .int .u64 0, .int .u64 0, .string ⟨#[]⟩, .string ⟨#[]⟩, .string ⟨#[]⟩] 43 := rfl
  have e1 : comO (startC ((k : Int) + 1)) = .cells #[.int .i64 ((k : Int) + 1), .string ⟨#[]⟩, .slice none 0 0, .slice none 0 0, .slice none 0 0, .int .u64 0, .int .u64 0, .string ⟨#[]⟩, .string ⟨#[]⟩, .string ⟨#[]⟩] 43 := rfl
  rw [e0, e1] at hw0
  clear e0 e1
  have hkk : (k : Int) + 1 ≤ 15 := by omega
  clear B0 hq he hm
  go_enter Tryd.func25, Tryd.ntmps25
  go_wp2_with fail
  rw [← hw0]
  clear hw0
  refine (has_mask 57 0 57 1 true _ (by omega) rfl (by omega) rfl (by decide)).mono ?_
  rintro e wx ⟨rfl, rfl⟩
  go_wp2_with fail
  refine (text_r B _ g h _ RQ0.out).mono ?_
  rintro e y1 ⟨p1, rfl, a1, b1, c1, d1⟩
  have HTy1 : Only (Two g h) w y1 := HT0.out.trans (d1.mono (fun j _ e => Or.inl e))
  have byx1 := BX0.out.only d1 (by intro e; rcases e with e | e <;> omega)
  have byz1 := BZ0.out.only d1 (by intro e; rcases e with e | e <;> omega)
  have hzy1 : w.heap.size + 2 ≤ y1.heap.size := by have := d1.size; omega
  have BX1 := Lib.hid (Box_set0 byx1 p1)
  have BB1 : Below (w.heap.size + 1) y1 (y1.setCell ⟨w.heap.size + 1, 1, none⟩ (.string ⟨p1.toArray⟩)) := Below.setCell (Below.refl (w.heap.size + 1) y1) (show w.heap.size + 1 ≤ (⟨w.heap.size + 1, 1, none⟩ : Addr).block from Nat.le_refl _) (.string ⟨p1.toArray⟩)
  have PB1 : Only (fun j => j = w.heap.size + 1) y1 (y1.setCell ⟨w.heap.size + 1, 1, none⟩ (.string ⟨p1.toArray⟩)) := Only.put (F := fun j => j = w.heap.size + 1) (ad := ⟨w.heap.size + 1, 1, none⟩) (Only.refl _ _) rfl (.string ⟨p1.toArray⟩)
  have BZ1 := Lib.hid (byz1.only PB1 (by intro e; omega))
  have HT1 : Hid (Only (Two g h) w (y1.setCell ⟨w.heap.size + 1, 1, none⟩ (.string ⟨p1.toArray⟩))) := HTy1.setCell (Or.inr (by show w.heap.size ≤ w.heap.size + 1; omega)) _
  have st1 := more_part rdS ST0.out.1 ST0.out.2 (y := 107) (fun c v => { c with key := v }) (fun c l => by unfold rdPart; simp (decide := true) only [if_true, if_false]) b1
  rw [← rdAll_snoc] at st1
  obtain ⟨s1, hs1⟩ : ∃ s, s = ((some p).bind rdS).map (·.2) := ⟨_, rfl⟩
  rw [← hs1] at st1 c1
  have ST1 : Hid (s1 = (rdAll [107] (bare ((k : Int) + 1)) p).map (·.2) ∧ ∀ q, rdAll [107] (bare ((k : Int) + 1)) p = some q → q.1 = (⟨(k : Int) + 1, p1, [], [], [], 0, 0, [], [], []⟩ : Cmd)) := st1
  have RQ1 := Lib.hid (Rq.low c1 BB1 (by omega) (by omega))
  have AL1 := Lib.hid a1
  have hzu1c : w.heap.size + 2 ≤ (y1.setCell ⟨w.heap.size + 1, 1, none⟩ (.string ⟨p1.toArray⟩)).heap.size := by simp; omega
  obtain ⟨x0_1, x1_1, x2_1, x3_1, x4_1, x5_1, x6_1, x7_1, x8_1, x9_1, un_1⟩ := byx1
  have fz := un_1 1
  clear  a1 b1 c1 d1 HTy1 byz1 BB1 PB1 st1 hs1 
  go_wp2_with fail
  clear x0_1 x1_1 x2_1 x3_1 x4_1 x5_1 x6_1 x7_1 x8_1 x9_1 un_1 fz
  obtain ⟨u1, hu1⟩ : ∃ u, u = (y1.setCell ⟨w.heap.size + 1, 1, none⟩ (.string ⟨p1.toArray⟩)) := ⟨_, rfl⟩
  rw [← hu1] at BX1 BZ1 RQ1 HT1 hzu1c 
  try rw [← hu1]
  clear hu1
  refine (has_mask 57 1 57 2 false _ (by omega) rfl (by omega) rfl (by decide)).mono ?_
  rintro e wx ⟨rfl, rfl⟩
  go_wp2_with fail
  refine (has_mask 57 2 57 4 false _ (by omega) rfl (by omega) rfl (by decide)).mono ?_
  rintro e wx ⟨rfl, rfl⟩
  go_wp2_with fail
  refine (has_mask 57 3 57 8 true _ (by omega) rfl (by omega) rfl (by decide)).mono ?_
  rintro e wx ⟨rfl, rfl⟩
  go_wp2_with fail
  refine (bytes_r B _ g h _ RQ1.out).mono ?_
  rintro e y2 ⟨v2, p2, rfl, o2, a2, b2, c2, d2⟩
  have HTy2 : Only (Two g h) w y2 := HT1.out.trans (d2.mono (fun j _ e => Or.inl e))
  have byx2 := BX1.out.only d2 (by intro e; rcases e with e | e <;> omega)
  have byz2 := BZ1.out.only d2 (by intro e; rcases e with e | e <;> omega)
  have hzy2 : w.heap.size + 2 ≤ y2.heap.size := by have := d2.size; omega
  obtain ⟨X2, e2, sh2⟩ := own_shape o2
  obtain rfl := sh2.val
  have BX2 := Lib.hid (Box_set3 byx2 p2 X2 e2)
  have BB2 : Below (w.heap.size + 1) y2 (y2.setCell ⟨w.heap.size + 1, 3, none⟩ (.slice X2 p2.length e2)) := Below.setCell (Below.refl (w.heap.size + 1) y2) (show w.heap.size + 1 ≤ (⟨w.heap.size + 1, 3, none⟩ : Addr).block from Nat.le_refl _) (.slice X2 p2.length e2)
  have PB2 : Only (fun j => j = w.heap.size + 1) y2 (y2.setCell ⟨w.heap.size + 1, 3, none⟩ (.slice X2 p2.length e2)) := Only.put (F := fun j => j = w.heap.size + 1) (ad := ⟨w.heap.size + 1, 3, none⟩) (Only.refl _ _) rfl (.slice X2 p2.length e2)
  have BZ2 := Lib.hid (byz2.only PB2 (by intro e; omega))
  have HT2 : Hid (Only (Two g h) w (y2.setCell ⟨w.heap.size + 1, 3, none⟩ (.slice X2 p2.length e2))) := HTy2.setCell (Or.inr (by show w.heap.size ≤ w.heap.size + 1; omega)) _
  have st2 := more_part rdS ST1.out.1 ST1.out.2 (y := 118) (fun c v => { c with value := v }) (fun c l => by unfold rdPart; simp (decide := true) only [if_true, if_false]) b2
  rw [← rdAll_snoc] at st2
  obtain ⟨s2, hs2⟩ : ∃ s, s = (s1.bind rdS).map (·.2) := ⟨_, rfl⟩
  rw [← hs2] at st2 c2
  have ST2 : Hid (s2 = (rdAll [107, 118] (bare ((k : Int) + 1)) p).map (·.2) ∧ ∀ q, rdAll [107, 118] (bare ((k : Int) + 1)) p = some q → q.1 = (⟨(k : Int) + 1, p1, [], p2, [], 0, 0, [], [], []⟩ : Cmd)) := st2
  have RQ2 := Lib.hid (Rq.low c2 BB2 (by omega) (by omega))
  have AL2 := Lib.hid a2
  have SB2 : Hid (∀ a, X2 = some a → w.heap.size + 2 ≤ a.block ∧ True) := fun a ha => ⟨by have := (sh2.base a ha).1; have hz := hzu1c; omega, trivial⟩
  have SN2 := Lib.hid sh2.non
  have SR2 : Hid (Rb (y2.setCell ⟨w.heap.size + 1, 3, none⟩ (.slice X2 p2.length e2)) X2 p2) := rb_only sh2.rd PB2 (fun a ha e => by have := (SB2.out a ha).1; omega)
  have SZ2 : Hid (∀ a, X2 = some a → a.block < (y2.setCell ⟨w.heap.size + 1, 3, none⟩ (.slice X2 p2.length e2)).heap.size) := fun a ha => by have := (sh2.base a ha).2; simp; omega
  have hzu2c : w.heap.size + 2 ≤ (y2.setCell ⟨w.heap.size + 1, 3, none⟩ (.slice X2 p2.length e2)).heap.size := by simp; omega
  obtain ⟨x0_2, x1_2, x2_2, x3_2, x4_2, x5_2, x6_2, x7_2, x8_2, x9_2, un_2⟩ := byx2
  have fz := un_2 3
  clear sh2 o2 a2 b2 c2 d2 HTy2 byz2 BB2 PB2 st2 hs2 
  go_wp2_with fail
  clear x0_2 x1_2 x2_2 x3_2 x4_2 x5_2 x6_2 x7_2 x8_2 x9_2 un_2 fz
  obtain ⟨u2, hu2⟩ : ∃ u, u = (y2.setCell ⟨w.heap.size + 1, 3, none⟩ (.slice X2 p2.length e2)) := ⟨_, rfl⟩
  rw [← hu2] at BX2 BZ2 RQ2 HT2 hzu2c SR2 SZ2
  try rw [← hu2]
  clear hu2
  refine (has_mask 57 4 57 16 true _ (by omega) rfl (by omega) rfl (by decide)).mono ?_
  rintro e wx ⟨rfl, rfl⟩
  go_wp2_with fail
  refine (list_r B _ g h _ RQ2.out).mono ?_
  rintro e y3 ⟨v3, p3, rfl, o3, i3, a3, b3, c3, d3⟩
  have HTy3 : Only (Two g h) w y3 := HT2.out.trans (d3.mono (fun j _ e => Or.inl e))
  have byx3 := BX2.out.only d3 (by intro e; rcases e with e | e <;> omega)
  have byz3 := BZ2.out.only d3 (by intro e; rcases e with e | e <;> omega)
  have hzy3 : w.heap.size + 2 ≤ y3.heap.size := by have := d3.size; omega
  obtain ⟨X3, e3, sh3⟩ := ows_shape o3
  obtain rfl := sh3.val
  have BX3 := Lib.hid (Box_set4 byx3 p3 X3 e3)
  have BB3 : Below (w.heap.size + 1) y3 (y3.setCell ⟨w.heap.size + 1, 4, none⟩ (.slice X3 p3.length e3)) := Below.setCell (Below.refl (w.heap.size + 1) y3) (show w.heap.size + 1 ≤ (⟨w.heap.size + 1, 4, none⟩ : Addr).block from Nat.le_refl _) (.slice X3 p3.length e3)
  have PB3 : Only (fun j => j = w.heap.size + 1) y3 (y3.setCell ⟨w.heap.size + 1, 4, none⟩ (.slice X3 p3.length e3)) := Only.put (F := fun j => j = w.heap.size + 1) (ad := ⟨w.heap.size + 1, 4, none⟩) (Only.refl _ _) rfl (.slice X3 p3.length e3)
  have BZ3 := Lib.hid (byz3.only PB3 (by intro e; omega))
  have HT3 : Hid (Only (Two g h) w (y3.setCell ⟨w.heap.size + 1, 4, none⟩ (.slice X3 p3.length e3))) := HTy3.setCell (Or.inr (by show w.heap.size ≤ w.heap.size + 1; omega)) _
  have st3 := more_part rdL ST2.out.1 ST2.out.2 (y := 116) (fun c v => { c with tags := v }) (fun c l => by unfold rdPart; simp (decide := true) only [if_true, if_false]) b3
  rw [← rdAll_snoc] at st3
  obtain ⟨s3, hs3⟩ : ∃ s, s = (s2.bind rdL).map (·.2) := ⟨_, rfl⟩
  rw [← hs3] at st3 c3
  have ST3 : Hid (s3 = (rdAll [107, 118, 116] (bare ((k : Int) + 1)) p).map (·.2) ∧ ∀ q, rdAll [107, 118, 116] (bare ((k : Int) + 1)) p = some q → q.1 = (⟨(k : Int) + 1, p1, [], p2, p3, 0, 0, [], [], []⟩ : Cmd)) := st3
  have RQ3 := Lib.hid (Rq.low c3 BB3 (by omega) (by omega))
  have AL3 := Lib.hid a3
  have IL3 := Lib.hid i3
  have SR2 : Hid (Rb (y3.setCell ⟨w.heap.size + 1, 4, none⟩ (.slice X3 p3.length e3)) X2 p2) := rb_only (rb_only SR2.out d3 (fun a ha e => by have := (SB2.out a ha).1; rcases e with e | e <;> omega)) PB3 (fun a ha e => by have := (SB2.out a ha).1; omega)
  have SZ2 : Hid (∀ a, X2 = some a → a.block < (y3.setCell ⟨w.heap.size + 1, 4, none⟩ (.slice X3 p3.length e3)).heap.size) := fun a ha => by have := SZ2.out a ha; have := d3.size; simp; omega
  have SB3 : Hid (∀ a, X3 = some a → w.heap.size + 2 ≤ a.block ∧ True) := fun a ha => ⟨by have := (sh3.base a ha).1; have hz := hzu2c; omega, trivial⟩
  have SN3 := Lib.hid sh3.non
  have SR3 : Hid (Rd (y3.setCell ⟨w.heap.size + 1, 4, none⟩ (.slice X3 p3.length e3)) X3 p3) := Rd.only sh3.rd PB3 (fun a ha e => by have := (SB3.out a ha).1; omega)
  have SZ3 : Hid (∀ a, X3 = some a → a.block < (y3.setCell ⟨w.heap.size + 1, 4, none⟩ (.slice X3 p3.length e3)).heap.size) := fun a ha => by have := (sh3.base a ha).2; simp; omega
  have hzu3c : w.heap.size + 2 ≤ (y3.setCell ⟨w.heap.size + 1, 4, none⟩ (.slice X3 p3.length e3)).heap.size := by simp; omega
  obtain ⟨x0_3, x1_3, x2_3, x3_3, x4_3, x5_3, x6_3, x7_3, x8_3, x9_3, un_3⟩ := byx3
  have fz := un_3 4
  clear sh3 o3 a3 b3 c3 d3 HTy3 byz3 BB3 PB3 st3 hs3 i3
  go_wp2_with fail
  clear x0_3 x1_3 x2_3 x3_3 x4_3 x5_3 x6_3 x7_3 x8_3 x9_3 un_3 fz
  obtain ⟨u3, hu3⟩ : ∃ u, u = (y3.setCell ⟨w.heap.size + 1, 4, none⟩ (.slice X3 p3.length e3)) := ⟨_, rfl⟩
  rw [← hu3] at BX3 BZ3 RQ3 HT3 hzu3c SR2 SZ2 SR3 SZ3
  try rw [← hu3]
  clear hu3
  refine (has_mask 57 5 57 32 true _ (by omega) rfl (by omega) rfl (by decide)).mono ?_
  rintro e wx ⟨rfl, rfl⟩
  go_wp2_with fail
  refine (number_r B _ g h _ RQ3.out).mono ?_
  rintro e y4 ⟨p4, rfl, a4, b4, c4, d4⟩
  have HTy4 : Only (Two g h) w y4 := HT3.out.trans (d4.mono (fun j _ e => Or.inl e))
  have byx4 := BX3.out.only d4 (by intro e; rcases e with e | e <;> omega)
  have byz4 := BZ3.out.only d4 (by intro e; rcases e with e | e <;> omega)
  have hzy4 : w.heap.size + 2 ≤ y4.heap.size := by have := d4.size; omega
  have BX4 := Lib.hid (Box_set5 byx4 p4)
  have BB4 : Below (w.heap.size + 1) y4 (y4.setCell ⟨w.heap.size + 1, 5, none⟩ (.int .u64 (p4 : Int))) := Below.setCell (Below.refl (w.heap.size + 1) y4) (show w.heap.size + 1 ≤ (⟨w.heap.size + 1, 5, none⟩ : Addr).block from Nat.le_refl _) (.int .u64 (p4 : Int))
  have PB4 : Only (fun j => j = w.heap.size + 1) y4 (y4.setCell ⟨w.heap.size + 1, 5, none⟩ (.int .u64 (p4 : Int))) := Only.put (F := fun j => j = w.heap.size + 1) (ad := ⟨w.heap.size + 1, 5, none⟩) (Only.refl _ _) rfl (.int .u64 (p4 : Int))
  have BZ4 := Lib.hid (byz4.only PB4 (by intro e; omega))
  have HT4 : Hid (Only (Two g h) w (y4.setCell ⟨w.heap.size + 1, 5, none⟩ (.int .u64 (p4 : Int)))) := HTy4.setCell (Or.inr (by show w.heap.size ≤ w.heap.size + 1; omega)) _
  have st4 := more_part rdN ST3.out.1 ST3.out.2 (y := 108) (fun c v => { c with life := v }) (fun c l => by unfold rdPart; simp (decide := true) only [if_true, if_false]) b4
  rw [← rdAll_snoc] at st4
  obtain ⟨s4, hs4⟩ : ∃ s, s = (s3.bind rdN).map (·.2) := ⟨_, rfl⟩
  rw [← hs4] at st4 c4
  have ST4 : Hid (s4 = (rdAll [107, 118, 116, 108] (bare ((k : Int) + 1)) p).map (·.2) ∧ ∀ q, rdAll [107, 118, 116, 108] (bare ((k : Int) + 1)) p = some q → q.1 = (⟨(k : Int) + 1, p1, [], p2, p3, p4, 0, [], [], []⟩ : Cmd)) := st4
  have RQ4 := Lib.hid (Rq.low c4 BB4 (by omega) (by omega))
  have AL4 := Lib.hid a4
  have SR2 : Hid (Rb (y4.setCell ⟨w.heap.size + 1, 5, none⟩ (.int .u64 (p4 : Int))) X2 p2) := rb_only (rb_only SR2.out d4 (fun a ha e => by have := (SB2.out a ha).1; rcases e with e | e <;> omega)) PB4 (fun a ha e => by have := (SB2.out a ha).1; omega)
  have SZ2 : Hid (∀ a, X2 = some a → a.block < (y4.setCell ⟨w.heap.size + 1, 5, none⟩ (.int .u64 (p4 : Int))).heap.size) := fun a ha => by have := SZ2.out a ha; have := d4.size; simp; omega
  have SR3 : Hid (Rd (y4.setCell ⟨w.heap.size + 1, 5, none⟩ (.int .u64 (p4 : Int))) X3 p3) := Rd.only (Rd.only SR3.out d4 (fun a ha e => by have := (SB3.out a ha).1; rcases e with e | e <;> omega)) PB4 (fun a ha e => by have := (SB3.out a ha).1; omega)
  have SZ3 : Hid (∀ a, X3 = some a → a.block < (y4.setCell ⟨w.heap.size + 1, 5, none⟩ (.int .u64 (p4 : Int))).heap.size) := fun a ha => by have := SZ3.out a ha; have := d4.size; simp; omega
  have hzu4c : w.heap.size + 2 ≤ (y4.setCell ⟨w.heap.size + 1, 5, none⟩ (.int .u64 (p4 : Int))).heap.size := by simp; omega
  obtain ⟨x0_4, x1_4, x2_4, x3_4, x4_4, x5_4, x6_4, x7_4, x8_4, x9_4, un_4⟩ := byx4
  have fz := un_4 5
  clear  a4 b4 c4 d4 HTy4 byz4 BB4 PB4 st4 hs4 
  go_wp2_with fail
  clear x0_4 x1_4 x2_4 x3_4 x4_4 x5_4 x6_4 x7_4 x8_4 x9_4 un_4 fz
  obtain ⟨u4, hu4⟩ : ∃ u, u = (y4.setCell ⟨w.heap.size + 1, 5, none⟩ (.int .u64 (p4 : Int))) := ⟨_, rfl⟩
  rw [← hu4] at BX4 BZ4 RQ4 HT4 hzu4c SR2 SZ2 SR3 SZ3
  try rw [← hu4]
  clear hu4
  refine (has_mask 57 6 57 64 false _ (by omega) rfl (by omega) rfl (by decide)).mono ?_
  rintro e wx ⟨rfl, rfl⟩
  go_wp2_with fail
  refine (has_mask 57 7 57 128 false _ (by omega) rfl (by omega) rfl (by decide)).mono ?_
  rintro e wx ⟨rfl, rfl⟩
  go_wp2_with fail
  refine (has_mask 57 8 57 256 false _ (by omega) rfl (by omega) rfl (by decide)).mono ?_
  rintro e wx ⟨rfl, rfl⟩
  obtain ⟨F0, F1, F2, F3, F4, F5, F6, F7, F8, F9, fun_⟩ := BX4.out
  have f0 : u4.cell? ⟨w.heap.size + 1, 0, none⟩ = some (.int .i64 ((k : Int) + 1)) := F0
  have f1 : u4.cell? ⟨w.heap.size + 1, 1, none⟩ = some (.string ⟨p1.toArray⟩) := F1
  have f2 : u4.cell? ⟨w.heap.size + 1, 2, none⟩ = some (.slice none 0 0) := F2
  have f3 : u4.cell? ⟨w.heap.size + 1, 3, none⟩ = some (.slice X2 p2.length e2) := F3
  have f4 : u4.cell? ⟨w.heap.size + 1, 4, none⟩ = some (.slice X3 p3.length e3) := F4
  have f5 : u4.cell? ⟨w.heap.size + 1, 5, none⟩ = some (.int .u64 (p4 : Int)) := F5
  have f6 : u4.cell? ⟨w.heap.size + 1, 6, none⟩ = some (.int .u64 0) := F6
  have f7 : u4.cell? ⟨w.heap.size + 1, 7, none⟩ = some (.string ⟨#[]⟩) := F7
  have f8 : u4.cell? ⟨w.heap.size + 1, 8, none⟩ = some (.string ⟨#[]⟩) := F8
  have f9 : u4.cell? ⟨w.heap.size + 1, 9, none⟩ = some (.string ⟨#[]⟩) := F9
  clear F0 F1 F2 F3 F4 F5 F6 F7 F8 F9
  obtain ⟨z0, z1, z2, z3, z4, z5, z6, z7, z8, z9, zun⟩ := BZ4.out
  have zu0 := zun 0
  have zu1 := zun 1
  have zu2 := zun 2
  have zu3 := zun 3
  have zu4 := zun 4
  have zu5 := zun 5
  have zu6 := zun 6
  have zu7 := zun 7
  have zu8 := zun 8
  have zu9 := zun 9
  go_wp2_with fail
  have HF := put10 u4 w.heap.size (.int .i64 ((k : Int) + 1)) (.string ⟨p1.toArray⟩) (.slice none 0 0) (.slice X2 p2.length e2) (.slice X3 p3.length e3) (.int .u64 (p4 : Int)) (.int .u64 0) (.string ⟨#[]⟩) (.string ⟨#[]⟩) (.string ⟨#[]⟩)
  have HZ : u4.heap.size = (((((((((((u4.setCell ⟨w.heap.size, 0, none⟩ (.int .i64 ((k : Int) + 1))).setCell ⟨w.heap.size, 1, none⟩ (.string ⟨p1.toArray⟩)).setCell ⟨w.heap.size, 2, none⟩ (.slice none 0 0)).setCell ⟨w.heap.size, 3, none⟩ (.slice X2 p2.length e2)).setCell ⟨w.heap.size, 4, none⟩ (.slice X3 p3.length e3)).setCell ⟨w.heap.size, 5, none⟩ (.int .u64 (p4 : Int))).setCell ⟨w.heap.size, 6, none⟩ (.int .u64 0)).setCell ⟨w.heap.size, 7, none⟩ (.string ⟨#[]⟩)).setCell ⟨w.heap.size, 8, none⟩ (.string ⟨#[]⟩)).setCell ⟨w.heap.size, 9, none⟩ (.string ⟨#[]⟩))).heap.size := by simp
  refine bodyPost_ret (v := .agg #[.int .i64 ((k : Int) + 1), .string ⟨p1.toArray⟩, .slice none 0 0, .slice X2 p2.length e2, .slice X3 p3.length e3, .int .u64 (p4 : Int), .int .u64 0, .string ⟨#[]⟩, .string ⟨#[]⟩, .string ⟨#[]⟩]) (by simp [results, Tryd.results25, go_sem, z0, z1, z2, z3, z4, z5, z6, z7, z8, z9]) rfl ⟨⟨(⟨(k : Int) + 1, p1, [], p2, p3, p4, 0, [], [], []⟩ : Cmd), none, 0, X2, e2, X3, e3⟩, rfl, ?_, ST4.out.2, ?_, ?_⟩
  · refine ⟨⟨(Rd.nil _ _), (fun _ => rfl), (rb_only SR2.out HF (fun a ha e => by have := (SB2.out a ha).1; omega)), (SN2.out), (Rd.only SR3.out HF (fun a ha e => by have := (SB3.out a ha).1; omega)), (SN3.out)⟩, ⟨by show _ ≤ (k : Int) + 1; omega, by show (k : Int) + 1 ≤ _; omega, (by have := AL1.out; show p1.length ≤ _; omega), (Nat.zero_le _), (Nat.zero_le _), (Nat.zero_le _), (by have := AL2.out; show p2.length ≤ _; omega), (Nat.zero_le _), (by have := IL3.out; show p3.length ≤ _; omega), (fun s hs => by cases hs), (fun s hs => by have := AL3.out s hs; omega), (by have := AL4.out; unfold big at this; exact this), (by show 0 < 18446744073709551616; omega)⟩, (Nat.zero_le _), (by have := IL3.out; show p3.length ≤ _; omega), (fun a ha => by cases ha), (fun a ha => ⟨by have := (SB2.out a ha).1; omega, by have := SZ2.out a ha; rw [← HZ]; exact this⟩), (fun a ha => ⟨by have := (SB3.out a ha).1; omega, by have := SZ3.out a ha; rw [← HZ]; exact this⟩)⟩
  · rw [← ST4.out.1]; exact Rq.low RQ4.out (HF.below (B := w.heap.size) (fun j e => by omega) (by omega)) hgl hhl
  · exact HT4.out.trans (HF.mono (fun j _ e => Or.inr (by omega)))
set_option maxRecDepth 100000 in
set_option maxHeartbeats 4000000 in
theorem cmd121 (B k : Nat) (hk : k < 15) (hm : maskN k = 121) (p : Bs) (w : World) (g h : Nat) (he : Env w) (hq : Rq B w g h (some p)) :
    Calls Tryd.prog 25 #[.pointer (some ⟨h, 0, none⟩), .int .i64 ((k : Int) + 1)] w (tkC B w g h (rdAll [107, 118, 116, 108, 110] (bare ((k : Int) + 1)) p)) := by
  have hmk := he.mask k hk
  rw [hm] at hmk
  have hg0 := he.size
  have hhl := hq.lt
  have hgl : g < w.heap.size := by obtain ⟨l, hr, _⟩ := hq.rd; exact hr.lt
  obtain ⟨w0, hw0⟩ : ∃ w0, w0 = (w.alloc (comO zeroC)).alloc (comO (startC ((k : Int) + 1))) := ⟨_, rfl⟩
  have B0 : Below w.heap.size w w0 := by rw [hw0]; exact two_below _ _ _
  have BX0 : Hid (Box w0 (w.heap.size + 1) (startC ((k : Int) + 1))) := by
    have hb := Box.new (w.alloc (comO zeroC)) (startC ((k : Int) + 1))
    have e : (w.alloc (comO zeroC)).heap.size = w.heap.size + 1 := by simp
    rw [e] at hb
    show Box _ _ _
    rw [hw0]; exact hb
  have BZ0 : Hid (Box w0 w.heap.size zeroC) := by show Box _ _ _; rw [hw0]; exact (Box.new w zeroC).below (alloc_below _ _) (Nat.le_refl _)
  have RQ0 := Lib.hid (hq.below B0 (Nat.le_refl _))
  have HT0 : Hid (Only (Two g h) w w0) := Only.of_below B0 (Nat.le_refl _) _
  have hz0 : w.heap.size + 2 ≤ w0.heap.size := by rw [hw0]; simp
  have ST0 : Hid ((some p) = (rdAll [] (bare ((k : Int) + 1)) p).map (·.2) ∧ ∀ q, rdAll [] (bare ((k : Int) + 1)) p = some q → q.1 = (startC ((k : Int) + 1)).c) := ⟨rfl, fun q hq => by cases hq; rfl⟩
  have e0 : comO zeroC = .cells #[.int .i64 0, .string ⟨#[]⟩, .slice none 0 0, .slice none 0 0, .slice none 0 0, .int .u64 0, .int .u64 0, .string ⟨#[]⟩, .string ⟨#[]⟩, .string ⟨#[]⟩] 43 := rfl
  have e1 : comO (startC ((k : Int) + 1)) = .cells #[.int .i64 ((k : Int) + 1), .string ⟨#[]⟩, .slice none 0 0, .slice none 0 0, .slice none 0 0, .int .u64 0, .int .u64 0, .string ⟨#[]⟩, .string ⟨#[]⟩, .string ⟨#[]⟩] 43 := rfl
  rw [e0, e1] at hw0
  clear e0 e1
  have hkk : (k : Int) + 1 ≤ 15 := by omega
  clear B0 hq he hm
  go_enter Tryd.func25, Tryd.ntmps25
  go_wp2_with fail
  rw [← hw0]
  clear hw0
  refine (has_mask 121 0 121 1 true _ (by omega) rfl (by omega) rfl (by decide)).mono ?_
  rintro e wx ⟨rfl, rfl⟩
  go_wp2_with fail
  refine (text_r B _ g h _ RQ0.out).mono ?_
  rintro e y1 ⟨p1, rfl, a1, b1, c1, d1⟩
  have HTy1 : Only (Two g h) w y1 := HT0.out.trans (d1.mono (fun j _ e => Or.inl e))
  have byx1 := BX0.out.only d1 (by intro e; rcases e with e | e <;> omega)
  have byz1 := BZ0.out.only d1 (by intro e; rcases e with e | e <;> omega)
  have hzy1 : w.heap.size + 2 ≤ y1.heap.size := by have := d1.size; omega
  have BX1 := Lib.hid (Box_set0 byx1 p1)
  have BB1 : Below (w.heap.size + 1) y1 (y1.setCell ⟨w.heap.size + 1, 1, none⟩ (.string ⟨p1.toArray⟩)) := Below.setCell (Below.refl (w.heap.size + 1) y1) (show w.heap.size + 1 ≤ (⟨w.heap.size + 1, 1, none⟩ : Addr).block from Nat.le_refl _) (.string ⟨p1.toArray⟩)
  have PB1 : Only (fun j => j = w.heap.size + 1) y1 (y1.setCell ⟨w.heap.size + 1, 1, none⟩ (.string ⟨p1.toArray⟩)) := Only.put (F := fun j => j = w.heap.size + 1) (ad := ⟨w.heap.size + 1, 1, none⟩) (Only.refl _ _) rfl (.string ⟨p1.toArray⟩)
  have BZ1 := Lib.hid (byz1.only PB1 (by intro e; omega))
  have HT1 : Hid (Only (Two g h) w (y1.setCell ⟨w.heap.size + 1, 1, none⟩ (.string ⟨p1.toArray⟩))) := HTy1.setCell (Or.inr (by show w.heap.size ≤ w.heap.size + 1; omega)) _
  have st1 := more_part rdS ST0.out.1 ST0.out.2 (y := 107) (fun c v => { c with key := v }) (fun c l => by unfold rdPart; simp (decide := true) only [if_true, if_false]) b1
  rw [← rdAll_snoc] at st1
  obtain ⟨s1, hs1⟩ : ∃ s, s = ((some p).bind rdS).map (·.2) := ⟨_, rfl⟩
  rw [← hs1] at st1 c1
  have ST1 : Hid (s1 = (rdAll [107] (bare ((k : Int) + 1)) p).map (·.2) ∧ ∀ q, rdAll [107] (bare ((k : Int) + 1)) p = some q → q.1 = (⟨(k : Int) + 1, p1, [], [], [], 0, 0, [], [], []⟩ : Cmd)) := st1
  have RQ1 := Lib.hid (Rq.low c1 BB1 (by omega) (by omega))
  have AL1 := Lib.hid a1
  have hzu1c : w.heap.size + 2 ≤ (y1.setCell ⟨w.heap.size + 1, 1, none⟩ (.string ⟨p1.toArray⟩)).heap.size := by simp; omega
  obtain ⟨x0_1, x1_1, x2_1, x3_1, x4_1, x5_1, x6_1, x7_1, x8_1, x9_1, un_1⟩ := byx1
  have fz := un_1 1
  clear  a1 b1 c1 d1 HTy1 byz1 BB1 PB1 st1 hs1 
  go_wp2_with fail
  clear x0_1 x1_1 x2_1 x3_1 x4_1 x5_1 x6_1 x7_1 x8_1 x9_1 un_1 fz
  obtain ⟨u1, hu1⟩ : ∃ u, u = (y1.setCell ⟨w.heap.size + 1, 1, none⟩ (.string ⟨p1.toArray⟩)) := ⟨_, rfl⟩
  rw [← hu1] at BX1 BZ1 RQ1 HT1 hzu1c 
  try rw [← hu1]
  clear hu1
  refine (has_mask 121 1 121 2 false _ (by omega) rfl (by omega) rfl (by decide)).mono ?_
  rintro e wx ⟨rfl, rfl⟩
  go_wp2_with fail
  refine (has_mask 121 2 121 4 false _ (by omega) rfl (by omega) rfl (by decide)).mono ?_
  rintro e wx ⟨rfl, rfl⟩
  go_wp2_with fail
  refine (has_mask 121 3 121 8 true _ (by omega) rfl (by omega) rfl (by decide)).mono ?_
  rintro e wx ⟨rfl, rfl⟩
  go_wp2_with fail
  refine (bytes_r B _ g h _ RQ1.out).mono ?_
  rintro e y2 ⟨v2, p2, rfl, o2, a2, b2, c2, d2⟩
  have HTy2 : Only (Two g h) w y2 := HT1.out.trans (d2.mono (fun j _ e => Or.inl e))
  have byx2 := BX1.out.only d2 (by intro e; rcases e with e | e <;> omega)
  have byz2 := BZ1.out.only d2 (by intro e; rcases e with e | e <;> omega)
  have hzy2 : w.heap.size + 2 ≤ y2.heap.size := by have := d2.size; omega
  obtain ⟨X2, e2, sh2⟩ := own_shape o2
  obtain rfl := sh2.val
  have BX2 := Lib.hid (Box_set3 byx2 p2 X2 e2)
  have BB2 : Below (w.heap.size + 1) y2 (y2.setCell ⟨w.heap.size + 1, 3, none⟩ (.slice X2 p2.length e2)) := Below.setCell (Below.refl (w.heap.size + 1) y2) (show w.heap.size + 1 ≤ (⟨w.heap.size + 1, 3, none⟩ : Addr).block from Nat.le_refl _) (.slice X2 p2.length e2)
  have PB2 : Only (fun j => j = w.heap.size + 1) y2 (y2.setCell ⟨w.heap.size + 1, 3, none⟩ (.slice X2 p2.length e2)) := Only.put (F := fun j => j = w.heap.size + 1) (ad := ⟨w.heap.size + 1, 3, none⟩) (Only.refl _ _) rfl (.slice X2 p2.length e2)
  have BZ2 := Lib.hid (byz2.only PB2 (by intro e; omega))
  have HT2 : Hid (Only (Two g h) w (y2.setCell ⟨w.heap.size + 1, 3, none⟩ (.slice X2 p2.length e2))) := HTy2.setCell (Or.inr (by show w.heap.size ≤ w.heap.size + 1; omega)) _
  have st2 := more_part rdS ST1.out.1 ST1.out.2 (y := 118) (fun c v => { c with value := v }) (fun c l => by unfold rdPart; simp (decide := true) only [if_true, if_false]) b2
  rw [← rdAll_snoc] at st2
  obtain ⟨s2, hs2⟩ : ∃ s, s = (s1.bind rdS).map (·.2) := ⟨_, rfl⟩
  rw [← hs2] at st2 c2
  have ST2 : Hid (s2 = (rdAll [107, 118] (bare ((k : Int) + 1)) p).map (·.2) ∧ ∀ q, rdAll [107, 118] (bare ((k : Int) + 1)) p = some q → q.1 = (⟨(k : Int) + 1, p1, [], p2, [], 0, 0, [], [], []⟩ : Cmd)) := st2
  have RQ2 := Lib.hid (Rq.low c2 BB2 (by omega) (by omega))
  have AL2 := Lib.hid a2
  have SB2 : Hid (∀ a, X2 = some a → w.heap.size + 2 ≤ a.block ∧ True) := fun a ha => ⟨by have := (sh2.base a ha).1; have hz := hzu1c; omega, trivial⟩
  have SN2 := Lib.hid sh2.non
  have SR2 : Hid (Rb (y2.setCell ⟨w.heap.size + 1, 3, none⟩ (.slice X2 p2.length e2)) X2 p2) := rb_only sh2.rd PB2 (fun a ha e => by have := (SB2.out a ha).1; omega)
  have SZ2 : Hid (∀ a, X2 = some a → a.block < (y2.setCell ⟨w.heap.size + 1, 3, none⟩ (.slice X2 p2.length e2)).heap.size) := fun a ha => by have := (sh2.base a ha).2; simp; omega
  have hzu2c : w.heap.size + 2 ≤ (y2.setCell ⟨w.heap.size + 1, 3, none⟩ (.slice X2 p2.length e2)).heap.size := by simp; omega
  obtain ⟨x0_2, x1_2, x2_2, x3_2, x4_2, x5_2, x6_2, x7_2, x8_2, x9_2, un_2⟩ := byx2
  have fz := un_2 3
  clear sh2 o2 a2 b2 c2 d2 HTy2 byz2 BB2 PB2 st2 hs2 
  go_wp2_with fail
  clear x0_2 x1_2 x2_2 x3_2 x4_2 x5_2 x6_2 x7_2 x8_2 x9_2 un_2 fz
  obtain ⟨u2, hu2⟩ : ∃ u, u = (y2.setCell ⟨w.heap.size + 1, 3, none⟩ (.slice X2 p2.length e2)) := ⟨_, rfl⟩
  rw [← hu2] at BX2 BZ2 RQ2 HT2 hzu2c SR2 SZ2
  try rw [← hu2]
  clear hu2
  refine (has_mask 121 4 121 16 true _ (by omega) rfl (by omega) rfl (by decide)).mono ?_
  rintro e wx ⟨rfl, rfl⟩
  go_wp2_with fail
  refine (list_r B _ g h _ RQ2.out).mono ?_
  rintro e y3 ⟨v3, p3, rfl, o3, i3, a3, b3, c3, d3⟩
  have HTy3 : Only (Two g h) w y3 := HT2.out.trans (d3.mono (fun j _ e => Or.inl e))
  have byx3 := BX2.out.only d3 (by intro e; rcases e with e | e <;> omega)
  have byz3 := BZ2.out.only d3 (by intro e; rcases e with e | e <;> omega)
  have hzy3 : w.heap.size + 2 ≤ y3.heap.size := by have := d3.size; omega
  obtain ⟨X3, e3, sh3⟩ := ows_shape o3
  obtain rfl := sh3.val
  have BX3 := Lib.hid (Box_set4 byx3 p3 X3 e3)
  have BB3 : Below (w.heap.size + 1) y3 (y3.setCell ⟨w.heap.size + 1, 4, none⟩ (.slice X3 p3.length e3)) := Below.setCell (Below.refl (w.heap.size + 1) y3) (show w.heap.size + 1 ≤ (⟨w.heap.size + 1, 4, none⟩ : Addr).block from Nat.le_refl _) (.slice X3 p3.length e3)
  have PB3 : Only (fun j => j = w.heap.size + 1) y3 (y3.setCell ⟨w.heap.size + 1, 4, none⟩ (.slice X3 p3.length e3)) := Only.put (F := fun j => j = w.heap.size + 1) (ad := ⟨w.heap.size + 1, 4, none⟩) (Only.refl _ _) rfl (.slice X3 p3.length e3)
  have BZ3 := Lib.hid (byz3.only PB3 (by intro e; omega))
  have HT3 : Hid (Only (Two g h) w (y3.setCell ⟨w.heap.size + 1, 4, none⟩ (.slice X3 p3.length e3))) := HTy3.setCell (Or.inr (by show w.heap.size ≤ w.heap.size + 1; omega)) _
  have st3 := more_part rdL ST2.out.1 ST2.out.2 (y := 116) (fun c v => { c with tags := v }) (fun c l => by unfold rdPart; simp (decide := true) only [if_true, if_false]) b3
  rw [← rdAll_snoc] at st3
  obtain ⟨s3, hs3⟩ : ∃ s, s = (s2.bind rdL).map (·.2) := ⟨_, rfl⟩
  rw [← hs3] at st3 c3
  have ST3 : Hid (s3 = (rdAll [107, 118, 116] (bare ((k : Int) + 1)) p).map (·.2) ∧ ∀ q, rdAll [107, 118, 116] (bare ((k : Int) + 1)) p = some q → q.1 = (⟨(k : Int) + 1, p1, [], p2, p3, 0, 0, [], [], []⟩ : Cmd)) := st3
  have RQ3 := Lib.hid (Rq.low c3 BB3 (by omega) (by omega))
  have AL3 := Lib.hid a3
  have IL3 := Lib.hid i3
  have SR2 : Hid (Rb (y3.setCell ⟨w.heap.size + 1, 4, none⟩ (.slice X3 p3.length e3)) X2 p2) := rb_only (rb_only SR2.out d3 (fun a ha e => by have := (SB2.out a ha).1; rcases e with e | e <;> omega)) PB3 (fun a ha e => by have := (SB2.out a ha).1; omega)
  have SZ2 : Hid (∀ a, X2 = some a → a.block < (y3.setCell ⟨w.heap.size + 1, 4, none⟩ (.slice X3 p3.length e3)).heap.size) := fun a ha => by have := SZ2.out a ha; have := d3.size; simp; omega
  have SB3 : Hid (∀ a, X3 = some a → w.heap.size + 2 ≤ a.block ∧ True) := fun a ha => ⟨by have := (sh3.base a ha).1; have hz := hzu2c; omega, trivial⟩
  have SN3 := Lib.hid sh3.non
  have SR3 : Hid (Rd (y3.setCell ⟨w.heap.size + 1, 4, none⟩ (.slice X3 p3.length e3)) X3 p3) := Rd.only sh3.rd PB3 (fun a ha e => by have := (SB3.out a ha).1; omega)
  have SZ3 : Hid (∀ a, X3 = some a → a.block < (y3.setCell ⟨w.heap.size + 1, 4, none⟩ (.slice X3 p3.length e3)).heap.size) := fun a ha => by have := (sh3.base a ha).2; simp; omega
  have hzu3c : w.heap.size + 2 ≤ (y3.setCell ⟨w.heap.size + 1, 4, none⟩ (.slice X3 p3.length e3)).heap.size := by simp; omega
  obtain ⟨x0_3, x1_3, x2_3, x3_3, x4_3, x5_3, x6_3, x7_3, x8_3, x9_3, un_3⟩ := byx3
  have fz := un_3 4
  clear sh3 o3 a3 b3 c3 d3 HTy3 byz3 BB3 PB3 st3 hs3 i3
  go_wp2_with fail
  clear x0_3 x1_3 x2_3 x3_3 x4_3 x5_3 x6_3 x7_3 x8_3 x9_3 un_3 fz
  obtain ⟨u3, hu3⟩ : ∃ u, u = (y3.setCell ⟨w.heap.size + 1, 4, none⟩ (.slice X3 p3.length e3)) := ⟨_, rfl⟩
  rw [← hu3] at BX3 BZ3 RQ3 HT3 hzu3c SR2 SZ2 SR3 SZ3
  try rw [← hu3]
  clear hu3
  refine (has_mask 121 5 121 32 true _ (by omega) rfl (by omega) rfl (by decide)).mono ?_
  rintro e wx ⟨rfl, rfl⟩
  go_wp2_with fail
  refine (number_r B _ g h _ RQ3.out).mono ?_
  rintro e y4 ⟨p4, rfl, a4, b4, c4, d4⟩
  have HTy4 : Only (Two g h) w y4 := HT3.out.trans (d4.mono (fun j _ e => Or.inl e))
  have byx4 := BX3.out.only d4 (by intro e; rcases e with e | e <;> omega)
  have byz4 := BZ3.out.only d4 (by intro e; rcases e with e | e <;> omega)
  have hzy4 : w.heap.size + 2 ≤ y4.heap.size := by have := d4.size; omega
  have BX4 := Lib.hid (Box_set5 byx4 p4)
  have BB4 : Below (w.heap.size + 1) y4 (y4.setCell ⟨w.heap.size + 1, 5, none⟩ (.int .u64 (p4 : Int))) := Below.setCell (Below.refl (w.heap.size + 1) y4) (show w.heap.size + 1 ≤ (⟨w.heap.size + 1, 5, none⟩ : Addr).block from Nat.le_refl _) (.int .u64 (p4 : Int))
  have PB4 : Only (fun j => j = w.heap.size + 1) y4 (y4.setCell ⟨w.heap.size + 1, 5, none⟩ (.int .u64 (p4 : Int))) := Only.put (F := fun j => j = w.heap.size + 1) (ad := ⟨w.heap.size + 1, 5, none⟩) (Only.refl _ _) rfl (.int .u64 (p4 : Int))
  have BZ4 := Lib.hid (byz4.only PB4 (by intro e; omega))
  have HT4 : Hid (Only (Two g h) w (y4.setCell ⟨w.heap.size + 1, 5, none⟩ (.int .u64 (p4 : Int)))) := HTy4.setCell (Or.inr (by show w.heap.size ≤ w.heap.size + 1; omega)) _
  have st4 := more_part rdN ST3.out.1 ST3.out.2 (y := 108) (fun c v => { c with life := v }) (fun c l => by unfold rdPart; simp (decide := true) only [if_true, if_false]) b4
  rw [← rdAll_snoc] at st4
  obtain ⟨s4, hs4⟩ : ∃ s, s = (s3.bind rdN).map (·.2) := ⟨_, rfl⟩
  rw [← hs4] at st4 c4
  have ST4 : Hid (s4 = (rdAll [107, 118, 116, 108] (bare ((k : Int) + 1)) p).map (·.2) ∧ ∀ q, rdAll [107, 118, 116, 108] (bare ((k : Int) + 1)) p = some q → q.1 = (⟨(k : Int) + 1, p1, [], p2, p3, p4, 0, [], [], []⟩ : Cmd)) := st4
  have RQ4 := Lib.hid (Rq.low c4 BB4 (by omega) (by omega))
  have AL4 := Lib.hid a4
  have SR2 : Hid (Rb (y4.setCell ⟨w.heap.size + 1, 5, none⟩ (.int .u64 (p4 : Int))) X2 p2) := rb_only (rb_only SR2.out d4 (fun a ha e => by have := (SB2.out a ha).1; rcases e with e | e <;> omega)) PB4 (fun a ha e => by have := (SB2.out a ha).1; omega)
  have SZ2 : Hid (∀ a, X2 = some a → a.block < (y4.setCell ⟨w.heap.size + 1, 5, none⟩ (.int .u64 (p4 : Int))).heap.size) := fun a ha => by have := SZ2.out a ha; have := d4.size; simp; omega
  have SR3 : Hid (Rd (y4.setCell ⟨w.heap.size + 1, 5, none⟩ (.int .u64 (p4 : Int))) X3 p3) := Rd.only (Rd.only SR3.out d4 (fun a ha e => by have := (SB3.out a ha).1; rcases e with e | e <;> omega)) PB4 (fun a ha e => by have := (SB3.out a ha).1; omega)
  have SZ3 : Hid (∀ a, X3 = some a → a.block < (y4.setCell ⟨w.heap.size + 1, 5, none⟩ (.int .u64 (p4 : Int))).heap.size) := fun a ha => by have := SZ3.out a ha; have := d4.size; simp; omega
  have hzu4c : w.heap.size + 2 ≤ (y4.setCell ⟨w.heap.size + 1, 5, none⟩ (.int .u64 (p4 : Int))).heap.size := by simp; omega
  obtain ⟨x0_4, x1_4, x2_4, x3_4, x4_4, x5_4, x6_4, x7_4, x8_4, x9_4, un_4⟩ := byx4
  have fz := un_4 5
  clear  a4 b4 c4 d4 HTy4 byz4 BB4 PB4 st4 hs4 
  go_wp2_with fail
  clear x0_4 x1_4 x2_4 x3_4 x4_4 x5_4 x6_4 x7_4 x8_4 x9_4 un_4 fz
  obtain ⟨u4, hu4⟩ : ∃ u, u = (y4.setCell ⟨w.heap.size + 1, 5, none⟩ (.int .u64 (p4 : Int))) := ⟨_, rfl⟩
  rw [← hu4] at BX4 BZ4 RQ4 HT4 hzu4c SR2 SZ2 SR3 SZ3
  try rw [← hu4]
  clear hu4
  refine (has_mask 121 6 121 64 true _ (by omega) rfl (by omega) rfl (by decide)).mono ?_
  rintro e wx ⟨rfl, rfl⟩
  go_wp2_with fail
  refine (number_r B _ g h _ RQ4.out).mono ?_
  rintro e y5 ⟨p5, rfl, a5, b5, c5, d5⟩
  have HTy5 : Only (Two g h) w y5 := HT4.out.trans (d5.mono (fun j _ e => Or.inl e))
  have byx5 := BX4.out.only d5 (by intro e; rcases e with e | e <;> omega)
  have byz5 := BZ4.out.only d5 (by intro e; rcases e with e | e <;> omega)
  have hzy5 : w.heap.size + 2 ≤ y5.heap.size := by have := d5.size; omega
  have BX5 := Lib.hid (Box_set6 byx5 p5)
  have BB5 : Below (w.heap.size + 1) y5 (y5.setCell ⟨w.heap.size + 1, 6, none⟩ (.int .u64 (p5 : Int))) := Below.setCell (Below.refl (w.heap.size + 1) y5) (show w.heap.size + 1 ≤ (⟨w.heap.size + 1, 6, none⟩ : Addr).block from Nat.le_refl _) (.int .u64 (p5 : Int))
  have PB5 : Only (fun j => j = w.heap.size + 1) y5 (y5.setCell ⟨w.heap.size + 1, 6, none⟩ (.int .u64 (p5 : Int))) := Only.put (F := fun j => j = w.heap.size + 1) (ad := ⟨w.heap.size + 1, 6, none⟩) (Only.refl _ _) rfl (.int .u64 (p5 : Int))
  have BZ5 := Lib.hid (byz5.only PB5 (by intro e; omega))
  have HT5 : Hid (Only (Two g h) w (y5.setCell ⟨w.heap.size + 1, 6, none⟩ (.int .u64 (p5 : Int)))) := HTy5.setCell (Or.inr (by show w.heap.size ≤ w.heap.size + 1; omega)) _
  have st5 := more_part rdN ST4.out.1 ST4.out.2 (y := 110) (fun c v => { c with version := v }) (fun c l => by unfold rdPart; simp (decide := true) only [if_true, if_false]) b5
  rw [← rdAll_snoc] at st5
  obtain ⟨s5, hs5⟩ : ∃ s, s = (s4.bind rdN).map (·.2) := ⟨_, rfl⟩
  rw [← hs5] at st5 c5
  have ST5 : Hid (s5 = (rdAll [107, 118, 116, 108, 110] (bare ((k : Int) + 1)) p).map (·.2) ∧ ∀ q, rdAll [107, 118, 116, 108, 110] (bare ((k : Int) + 1)) p = some q → q.1 = (⟨(k : Int) + 1, p1, [], p2, p3, p4, p5, [], [], []⟩ : Cmd)) := st5
  have RQ5 := Lib.hid (Rq.low c5 BB5 (by omega) (by omega))
  have AL5 := Lib.hid a5
  have SR2 : Hid (Rb (y5.setCell ⟨w.heap.size + 1, 6, none⟩ (.int .u64 (p5 : Int))) X2 p2) := rb_only (rb_only SR2.out d5 (fun a ha e => by have := (SB2.out a ha).1; rcases e with e | e <;> omega)) PB5 (fun a ha e => by have := (SB2.out a ha).1; omega)
  have SZ2 : Hid (∀ a, X2 = some a → a.block < (y5.setCell ⟨w.heap.size + 1, 6, none⟩ (.int .u64 (p5 : Int))).heap.size) := fun a ha => by have := SZ2.out a ha; have := d5.size; simp; omega
  have SR3 : Hid (Rd (y5.setCell ⟨w.heap.size + 1, 6, none⟩ (.int .u64 (p5 : Int))) X3 p3) := Rd.only (Rd.only SR3.out d5 (fun a ha e => by have := (SB3.out a ha).1; rcases e with e | e <;> omega)) PB5 (fun a ha e => by have := (SB3.out a ha).1; omega)
  have SZ3 : Hid (∀ a, X3 = some a → a.block < (y5.setCell ⟨w.heap.size + 1, 6, none⟩ (.int .u64 (p5 : Int))).heap.size) := fun a ha => by have := SZ3.out a ha; have := d5.size; simp; omega
  have hzu5c : w.heap.size + 2 ≤ (y5.setCell ⟨w.heap.size + 1, 6, none⟩ (.int .u64 (p5 : Int))).heap.size := by simp; omega
  obtain ⟨x0_5, x1_5, x2_5, x3_5, x4_5, x5_5, x6_5, x7_5, x8_5, x9_5, un_5⟩ := byx5
  have fz := un_5 6
  clear  a5 b5 c5 d5 HTy5 byz5 BB5 PB5 st5 hs5 
  go_wp2_with fail
  clear x0_5 x1_5 x2_5 x3_5 x4_5 x5_5 x6_5 x7_5 x8_5 x9_5 un_5 fz
  obtain ⟨u5, hu5⟩ : ∃ u, u = (y5.setCell ⟨w.heap.size + 1, 6, none⟩ (.int .u64 (p5 : Int))) := ⟨_, rfl⟩
  rw [← hu5] at BX5 BZ5 RQ5 HT5 hzu5c SR2 SZ2 SR3 SZ3
  try rw [← hu5]
  clear hu5
  refine (has_mask 121 7 121 128 false _ (by omega) rfl (by omega) rfl (by decide)).mono ?_
  rintro e wx ⟨rfl, rfl⟩
  go_wp2_with fail
  refine (has_mask 121 8 121 256 false _ (by omega) rfl (by omega) rfl (by decide)).mono ?_
  rintro e wx ⟨rfl, rfl⟩
  obtain ⟨F0, F1, F2, F3, F4, F5, F6, F7, F8, F9, fun_⟩ := BX5.out
  have f0 : u5.cell? ⟨w.heap.size + 1, 0, none⟩ = some (.int .i64 ((k : Int) + 1)) := F0
  have f1 : u5.cell? ⟨w.heap.size + 1, 1, none⟩ = some (.string ⟨p1.toArray⟩) := F1
  have f2 : u5.cell? ⟨w.heap.size + 1, 2, none⟩ = some (.slice none 0 0) := F2
  have f3 : u5.cell? ⟨w.heap.size + 1, 3, none⟩ = some (.slice X2 p2.length e2) := F3
  have f4 : u5.cell? ⟨w.heap.size + 1, 4, none⟩ = some (.slice X3 p3.length e3) := F4
  have f5 : u5.cell? ⟨w.heap.size + 1, 5, none⟩ = some (.int .u64 (p4 : Int)) := F5
  have f6 : u5.cell? ⟨w.heap.size + 1, 6, none⟩ = some (.int .u64 (p5 : Int)) := F6
  have f7 : u5.cell? ⟨w.heap.size + 1, 7, none⟩ = some (.string ⟨#[]⟩) := F7
  have f8 : u5.cell? ⟨w.heap.size + 1, 8, none⟩ = some (.string ⟨#[]⟩) := F8
  have f9 : u5.cell? ⟨w.heap.size + 1, 9, none⟩ = some (.string ⟨#[]⟩) := F9
  clear F0 F1 F2 F3 F4 F5 F6 F7 F8 F9
  obtain ⟨z0, z1, z2, z3, z4, z5, z6, z7, z8, z9, zun⟩ := BZ5.out
  have zu0 := zun 0
  have zu1 := zun 1
  have zu2 := zun 2
  have zu3 := zun 3
  have zu4 := zun 4
  have zu5 := zun 5
  have zu6 := zun 6
  have zu7 := zun 7
  have zu8 := zun 8
  have zu9 := zun 9
  go_wp2_with fail
  have HF := put10 u5 w.heap.size (.int .i64 ((k : Int) + 1)) (.string ⟨p1.toArray⟩) (.slice none 0 0) (.slice X2 p2.length e2) (.slice X3 p3.length e3) (.int .u64 (p4 : Int)) (.int .u64 (p5 : Int)) (.string ⟨#[]⟩) (.string ⟨#[]⟩) (.string ⟨#[]⟩)
  have HZ : u5.heap.size = (((((((((((u5.setCell ⟨w.heap.size, 0, none⟩ (.int .i64 ((k : Int) + 1))).setCell ⟨w.heap.size, 1, none⟩ (.string ⟨p1.toArray⟩)).setCell ⟨w.heap.size, 2, none⟩ (.slice none 0 0)).setCell ⟨w.heap.size, 3, none⟩ (.slice X2 p2.length e2)).setCell ⟨w.heap.size, 4, none⟩ (.slice X3 p3.length e3)).setCell ⟨w.heap.size, 5, none⟩ (.int .u64 (p4 : Int))).setCell ⟨w.heap.size, 6, none⟩ (.int .u64 (p5 : Int))).setCell ⟨w.heap.size, 7, none⟩ (.string ⟨#[]⟩)).setCell ⟨w.heap.size, 8, none⟩ (.string ⟨#[]⟩)).setCell ⟨w.heap.size, 9, none⟩ (.string ⟨#[]⟩))).heap.size := by simp
  refine bodyPost_ret (v := .agg #[.int .i64 ((k : Int) + 1), .string ⟨p1.toArray⟩, .slice none 0 0, .slice X2 p2.length e2, .slice X3 p3.length e3, .int .u64 (p4 : Int), .int .u64 (p5 : Int), .string ⟨#[]⟩, .string ⟨#[]⟩, .string ⟨#[]⟩]) (by simp [results, Tryd.results25, go_sem, z0, z1, z2, z3, z4, z5, z6, z7, z8, z9]) rfl ⟨⟨(⟨(k : Int) + 1, p1, [], p2, p3, p4, p5, [], [], []⟩ : Cmd), none, 0, X2, e2, X3, e3⟩, rfl, ?_, ST5.out.2, ?_, ?_⟩
  · refine ⟨⟨(Rd.nil _ _), (fun _ => rfl), (rb_only SR2.out HF (fun a ha e => by have := (SB2.out a ha).1; omega)), (SN2.out), (Rd.only SR3.out HF (fun a ha e => by have := (SB3.out a ha).1; omega)), (SN3.out)⟩, ⟨by show _ ≤ (k : Int) + 1; omega, by show (k : Int) + 1 ≤ _; omega, (by have := AL1.out; show p1.length ≤ _; omega), (Nat.zero_le _), (Nat.zero_le _), (Nat.zero_le _), (by have := AL2.out; show p2.length ≤ _; omega), (Nat.zero_le _), (by have := IL3.out; show p3.length ≤ _; omega), (fun s hs => by cases hs), (fun s hs => by have := AL3.out s hs; omega), (by have := AL4.out; unfold big at this; exact this), (by have := AL5.out; unfold big at this; exact this)⟩, (Nat.zero_le _), (by have := IL3.out; show p3.length ≤ _; omega), (fun a ha => by cases ha), (fun a ha => ⟨by have := (SB2.out a ha).1; omega, by have := SZ2.out a ha; rw [← HZ]; exact this⟩), (fun a ha => ⟨by have := (SB3.out a ha).1; omega, by have := SZ3.out a ha; rw [← HZ]; exact this⟩)⟩
  · rw [← ST5.out.1]; exact Rq.low RQ5.out (HF.below (B := w.heap.size) (fun j e => by omega) (by omega)) hgl hhl
  · exact HT5.out.trans (HF.mono (fun j _ e => Or.inr (by omega)))
end Go.Proofs.YthlfahblnpijaaaDoor.Qc
namespace Go.Proofs.YthlfahblnpijaaaDoor.Qc
open Go.RowKit Vm Ap Vw Va Vc Vp Vn Vs Gc Mi Mb Qm Qs Qe Qd Qy

set_option maxRecDepth 100000 in
set_option maxHeartbeats 4000000 in
theorem cmd1 (B k : Nat) (hk : k < 15) (hm : maskN k = 1) (p : Bs) (w : World) (g h : Nat) (he : Env w) (hq : Rq B w g h (some p)) :
    Calls Tryd.prog 25 #[.pointer (some ⟨h, 0, none⟩), .int .i64 ((k : Int) + 1)] w (tkC B w g h (rdAll [107] (bare ((k : Int) + 1)) p)) := by
  have hmk := he.mask k hk
  rw [hm] at hmk
  have hg0 := he.size
  have hhl := hq.lt
  have hgl : g < w.heap.size := by obtain ⟨l, hr, _⟩ := hq.rd; exact hr.lt
  obtain ⟨w0, hw0⟩ : ∃ w0, w0 = (w.alloc (comO zeroC)).alloc (comO (startC ((k : Int) + 1))) := ⟨_, rfl⟩
  have B0 : Below w.heap.size w w0 := by rw [hw0]; exact two_below _ _ _
  have BX0 : Hid (Box w0 (w.heap.size + 1) (startC ((k : Int) + 1))) := by
    have hb := Box.new (w.alloc (comO zeroC)) (startC ((k : Int) + 1))
    have e : (w.alloc (comO zeroC)).heap.size = w.heap.size + 1 := by simp
    rw [e] at hb
    show Box _ _ _
    rw [hw0]; exact hb
  have BZ0 : Hid (Box w0 w.heap.size zeroC) := by show Box _ _ _; rw [hw0]; exact (Box.new w zeroC).below (alloc_below _ _) (Nat.le_refl _)
  have RQ0 := Lib.hid (hq.below B0 (Nat.le_refl _))
  have HT0 : Hid (Only (Two g h) w w0) := Only.of_below B0 (Nat.le_refl _) _
  have hz0 : w.heap.size + 2 ≤ w0.heap.size := by rw [hw0]; simp
  have ST0 : Hid ((some p) = (rdAll [] (bare ((k : Int) + 1)) p).map (·.2) ∧ ∀ q, rdAll [] (bare ((k : Int) + 1)) p = some q → q.1 = (startC ((k : Int) + 1)).c) := ⟨rfl, fun q hq => by cases hq; rfl⟩
  have e0 : comO zeroC = .cells #[.int .i64 0, .string ⟨#[]⟩, .slice none 0 0, .slice none 0 0, .slice none 0 0, .int .u64 0, .int .u64 0, .string ⟨#[]⟩, .string ⟨#[]⟩, .string ⟨#[]⟩] 43 := rfl
  have e1 : comO (startC ((k : Int) + 1)) = .cells #[.int .i64 ((k : Int) + 1), .string ⟨#[]⟩, .slice none 0 0, .slice none 0 0, .slice none 0 0, .int .u64 0, .int .u64 0, .string ⟨#[]⟩, .string ⟨#[]⟩, .string ⟨#[]⟩] 43 := rfl
  rw [e0, e1] at hw0
  clear e0 e1
  have hkk : (k : Int) + 1 ≤ 15 := by omega
  clear B0 hq he hm
  go_enter Tryd.func25, Tryd.ntmps25
  go_wp2_with fail
  rw [← hw0]
  clear hw0
  refine (has_mask 1 0 1 1 true _ (by omega) rfl (by omega) rfl (by decide)).mono ?_
  rintro e wx ⟨rfl, rfl⟩
  go_wp2_with fail
  refine (text_r B _ g h _ RQ0.out).mono ?_
  rintro e y1 ⟨p1, rfl, a1, b1, c1, d1⟩
  have HTy1 : Only (Two g h) w y1 := HT0.out.trans (d1.mono (fun j _ e => Or.inl e))
  have byx1 := BX0.out.only d1 (by intro e; rcases e with e | e <;> omega)
  have byz1 := BZ0.out.only d1 (by intro e; rcases e with e | e <;> omega)
  have hzy1 : w.heap.size + 2 ≤ y1.heap.size := by have := d1.size; omega
  have BX1 := Lib.hid (Box_set0 byx1 p1)
  have BB1 : Below (w.heap.size + 1) y1 (y1.setCell ⟨w.heap.size + 1, 1, none⟩ (.string ⟨p1.toArray⟩)) := Below.setCell (Below.refl (w.heap.size + 1) y1) (show w.heap.size + 1 ≤ (⟨w.heap.size + 1, 1, none⟩ : Addr).block from Nat.le_refl _) (.string ⟨p1.toArray⟩)
  have PB1 : Only (fun j => j = w.heap.size + 1) y1 (y1.setCell ⟨w.heap.size + 1, 1, none⟩ (.string ⟨p1.toArray⟩)) := Only.put (F := fun j => j = w.heap.size + 1) (ad := ⟨w.heap.size + 1, 1, none⟩) (Only.refl _ _) rfl (.string ⟨p1.toArray⟩)
  have BZ1 := Lib.hid (byz1.only PB1 (by intro e; omega))
  have HT1 : Hid (Only (Two g h) w (y1.setCell ⟨w.heap.size + 1, 1, none⟩ (.string ⟨p1.toArray⟩))) := HTy1.setCell (Or.inr (by show w.heap.size ≤ w.heap.size + 1; omega)) _
  have st1 := more_part rdS ST0.out.1 ST0.out.2 (y := 107) (fun c v => { c with key := v }) (fun c l => by unfold rdPart; simp (decide := true) only [if_true, if_false]) b1
  rw [← rdAll_snoc] at st1
  obtain ⟨s1, hs1⟩ : ∃ s, s = ((some p).bind rdS).map (·.2) := ⟨_, rfl⟩
  rw [← hs1] at st1 c1
  have ST1 : Hid (s1 = (rdAll [107] (bare ((k : Int) + 1)) p).map (·.2) ∧ ∀ q, rdAll [107] (bare ((k : Int) + 1)) p = some q → q.1 = (⟨(k : Int) + 1, p1, [], [], [], 0, 0, [], [], []⟩ : Cmd)) := st1
  have RQ1 := Lib.hid (Rq.low c1 BB1 (by omega) (by omega))
  have AL1 := Lib.hid a1
  have hzu1c : w.heap.size + 2 ≤ (y1.setCell ⟨w.heap.size + 1, 1, none⟩ (.string ⟨p1.toArray⟩)).heap.size := by simp; omega
  obtain ⟨x0_1, x1_1, x2_1, x3_1, x4_1, x5_1, x6_1, x7_1, x8_1, x9_1, un_1⟩ := byx1
  have fz := un_1 1
  clear  a1 b1 c1 d1 HTy1 byz1 BB1 PB1 st1 hs1 
  go_wp2_with fail
  clear x0_1 x1_1 x2_1 x3_1 x4_1 x5_1 x6_1 x7_1 x8_1 x9_1 un_1 fz
  obtain ⟨u1, hu1⟩ : ∃ u, u = (y1.setCell ⟨w.heap.size + 1, 1, none⟩ (.string ⟨p1.toArray⟩)) := ⟨_, rfl⟩
  rw [← hu1] at BX1 BZ1 RQ1 HT1 hzu1c 
  try rw [← hu1]
  clear hu1
  refine (has_mask 1 1 1 2 false _ (by omega) rfl (by omega) rfl (by decide)).mono ?_
  rintro e wx ⟨rfl, rfl⟩
  go_wp2_with fail
  refine (has_mask 1 2 1 4 false _ (by omega) rfl (by omega) rfl (by decide)).mono ?_
  rintro e wx ⟨rfl, rfl⟩
  go_wp2_with fail
  refine (has_mask 1 3 1 8 false _ (by omega) rfl (by omega) rfl (by decide)).mono ?_
  rintro e wx ⟨rfl, rfl⟩
  go_wp2_with fail
  refine (has_mask 1 4 1 16 false _ (by omega) rfl (by omega) rfl (by decide)).mono ?_
  rintro e wx ⟨rfl, rfl⟩
  go_wp2_with fail
  refine (has_mask 1 5 1 32 false _ (by omega) rfl (by omega) rfl (by decide)).mono ?_
  rintro e wx ⟨rfl, rfl⟩
  go_wp2_with fail
  refine (has_mask 1 6 1 64 false _ (by omega) rfl (by omega) rfl (by decide)).mono ?_
  rintro e wx ⟨rfl, rfl⟩
  go_wp2_with fail
  refine (has_mask 1 7 1 128 false _ (by omega) rfl (by omega) rfl (by decide)).mono ?_
  rintro e wx ⟨rfl, rfl⟩
  go_wp2_with fail
  refine (has_mask 1 8 1 256 false _ (by omega) rfl (by omega) rfl (by decide)).mono ?_
  rintro e wx ⟨rfl, rfl⟩
  obtain ⟨F0, F1, F2, F3, F4, F5, F6, F7, F8, F9, fun_⟩ := BX1.out
  have f0 : u1.cell? ⟨w.heap.size + 1, 0, none⟩ = some (.int .i64 ((k : Int) + 1)) := F0
  have f1 : u1.cell? ⟨w.heap.size + 1, 1, none⟩ = some (.string ⟨p1.toArray⟩) := F1
  have f2 : u1.cell? ⟨w.heap.size + 1, 2, none⟩ = some (.slice none 0 0) := F2
  have f3 : u1.cell? ⟨w.heap.size + 1, 3, none⟩ = some (.slice none 0 0) := F3
  have f4 : u1.cell? ⟨w.heap.size + 1, 4, none⟩ = some (.slice none 0 0) := F4
  have f5 : u1.cell? ⟨w.heap.size + 1, 5, none⟩ = some (.int .u64 0) := F5
  have f6 : u1.cell? ⟨w.heap.size + 1, 6, none⟩ = some (.int .u64 0) := F6
  have f7 : u1.cell? ⟨w.heap.size + 1, 7, none⟩ = some (.string ⟨#[]⟩) := F7
  have f8 : u1.cell? ⟨w.heap.size + 1, 8, none⟩ = some (.string ⟨#[]⟩) := F8
  have f9 : u1.cell? ⟨w.heap.size + 1, 9, none⟩ = some (.string ⟨#[]⟩) := F9
  clear F0 F1 F2 F3 F4 F5 F6 F7 F8 F9
  obtain ⟨z0, z1, z2, z3, z4, z5, z6, z7, z8, z9, zun⟩ := BZ1.out
  have zu0 := zun 0
  have zu1 := zun 1
  have zu2 := zun 2
  have zu3 := zun 3
  have zu4 := zun 4
  have zu5 := zun 5
  have zu6 := zun 6
  have zu7 := zun 7
  have zu8 := zun 8
  have zu9 := zun 9
  go_wp2_with fail
  have HF := put10 u1 w.heap.size (.int .i64 ((k : Int) + 1)) (.string ⟨p1.toArray⟩) (.slice none 0 0) (.slice none 0 0) (.slice none 0 0) (.int .u64 0) (.int .u64 0) (.string ⟨#[]⟩) (.string ⟨#[]⟩) (.string ⟨#[]⟩)
  have HZ : u1.heap.size = (((((((((((u1.setCell ⟨w.heap.size, 0, none⟩ (.int .i64 ((k : Int) + 1))).setCell ⟨w.heap.size, 1, none⟩ (.string ⟨p1.toArray⟩)).setCell ⟨w.heap.size, 2, none⟩ (.slice none 0 0)).setCell ⟨w.heap.size, 3, none⟩ (.slice none 0 0)).setCell ⟨w.heap.size, 4, none⟩ (.slice none 0 0)).setCell ⟨w.heap.size, 5, none⟩ (.int .u64 0)).setCell ⟨w.heap.size, 6, none⟩ (.int .u64 0)).setCell ⟨w.heap.size, 7, none⟩ (.string ⟨#[]⟩)).setCell ⟨w.heap.size, 8, none⟩ (.string ⟨#[]⟩)).setCell ⟨w.heap.size, 9, none⟩ (.string ⟨#[]⟩))).heap.size := by simp
  refine bodyPost_ret (v := .agg #[.int .i64 ((k : Int) + 1), .string ⟨p1.toArray⟩, .slice none 0 0, .slice none 0 0, .slice none 0 0, .int .u64 0, .int .u64 0, .string ⟨#[]⟩, .string ⟨#[]⟩, .string ⟨#[]⟩]) (by simp [results, Tryd.results25, go_sem, z0, z1, z2, z3, z4, z5, z6, z7, z8, z9]) rfl ⟨⟨(⟨(k : Int) + 1, p1, [], [], [], 0, 0, [], [], []⟩ : Cmd), none, 0, none, 0, none, 0⟩, rfl, ?_, ST1.out.2, ?_, ?_⟩
  · refine ⟨⟨(Rd.nil _ _), (fun _ => rfl), (Rb.nil _ _), (fun _ => rfl), (Rd.nil _ _), (fun _ => rfl)⟩, ⟨by show _ ≤ (k : Int) + 1; omega, by show (k : Int) + 1 ≤ _; omega, (by have := AL1.out; show p1.length ≤ _; omega), (Nat.zero_le _), (Nat.zero_le _), (Nat.zero_le _), (Nat.zero_le _), (Nat.zero_le _), (Nat.zero_le _), (fun s hs => by cases hs), (fun s hs => by cases hs), (by show 0 < 18446744073709551616; omega), (by show 0 < 18446744073709551616; omega)⟩, (Nat.zero_le _), (Nat.zero_le _), (fun a ha => by cases ha), (fun a ha => by cases ha), (fun a ha => by cases ha)⟩
  · rw [← ST1.out.1]; exact Rq.low RQ1.out (HF.below (B := w.heap.size) (fun j e => by omega) (by omega)) hgl hhl
  · exact HT1.out.trans (HF.mono (fun j _ e => Or.inr (by omega)))
set_option maxRecDepth 100000 in
set_option maxHeartbeats 4000000 in
theorem cmd4 (B k : Nat) (hk : k < 15) (hm : maskN k = 4) (p : Bs) (w : World) (g h : Nat) (he : Env w) (hq : Rq B w g h (some p)) :
    Calls Tryd.prog 25 #[.pointer (some ⟨h, 0, none⟩), .int .i64 ((k : Int) + 1)] w (tkC B w g h (rdAll [109] (bare ((k : Int) + 1)) p)) := by
  have hmk := he.mask k hk
  rw [hm] at hmk
  have hg0 := he.size
  have hhl := hq.lt
  have hgl : g < w.heap.size := by obtain ⟨l, hr, _⟩ := hq.rd; exact hr.lt
  obtain ⟨w0, hw0⟩ : ∃ w0, w0 = (w.alloc (comO zeroC)).alloc (comO (startC ((k : Int) + 1))) := ⟨_, rfl⟩
  have B0 : Below w.heap.size w w0 := by rw [hw0]; exact two_below _ _ _
  have BX0 : Hid (Box w0 (w.heap.size + 1) (startC ((k : Int) + 1))) := by
    have hb := Box.new (w.alloc (comO zeroC)) (startC ((k : Int) + 1))
    have e : (w.alloc (comO zeroC)).heap.size = w.heap.size + 1 := by simp
    rw [e] at hb
    show Box _ _ _
    rw [hw0]; exact hb
  have BZ0 : Hid (Box w0 w.heap.size zeroC) := by show Box _ _ _; rw [hw0]; exact (Box.new w zeroC).below (alloc_below _ _) (Nat.le_refl _)
  have RQ0 := Lib.hid (hq.below B0 (Nat.le_refl _))
  have HT0 : Hid (Only (Two g h) w w0) := Only.of_below B0 (Nat.le_refl _) _
  have hz0 : w.heap.size + 2 ≤ w0.heap.size := by rw [hw0]; simp
  have ST0 : Hid ((some p) = (rdAll [] (bare ((k : Int) + 1)) p).map (·.2) ∧ ∀ q, rdAll [] (bare ((k : Int) + 1)) p = some q → q.1 = (startC ((k : Int) + 1)).c) := ⟨rfl, fun q hq => by cases hq; rfl⟩
  have e0 : comO zeroC = .cells #[.int .i64 0, .string ⟨#[]⟩, .slice none 0 0, .slice none 0 0, .slice none 0 0, .int .u64 0, .int .u64 0, .string ⟨#[]⟩, .string ⟨#[]⟩, .string ⟨#[]⟩] 43 := rfl
  have e1 : comO (startC ((k : Int) + 1)) = .cells #[.int .i64 ((k : Int) + 1), .string ⟨#[]⟩, .slice none 0 0, .slice none 0 0, .slice none 0 0, .int .u64 0, .int .u64 0, .string ⟨#[]⟩, .string ⟨#[]⟩, .string ⟨#[]⟩] 43 := rfl
  rw [e0, e1] at hw0
  clear e0 e1
  have hkk : (k : Int) + 1 ≤ 15 := by omega
  clear B0 hq he hm
  go_enter Tryd.func25, Tryd.ntmps25
  go_wp2_with fail
  rw [← hw0]
  clear hw0
  refine (has_mask 4 0 4 1 false _ (by omega) rfl (by omega) rfl (by decide)).mono ?_
  rintro e wx ⟨rfl, rfl⟩
  go_wp2_with fail
  refine (has_mask 4 1 4 2 false _ (by omega) rfl (by omega) rfl (by decide)).mono ?_
  rintro e wx ⟨rfl, rfl⟩
  go_wp2_with fail
  refine (has_mask 4 2 4 4 true _ (by omega) rfl (by omega) rfl (by decide)).mono ?_
  rintro e wx ⟨rfl, rfl⟩
  go_wp2_with fail
  refine (list_r B _ g h _ RQ0.out).mono ?_
  rintro e y1 ⟨v1, p1, rfl, o1, i1, a1, b1, c1, d1⟩
  have HTy1 : Only (Two g h) w y1 := HT0.out.trans (d1.mono (fun j _ e => Or.inl e))
  have byx1 := BX0.out.only d1 (by intro e; rcases e with e | e <;> omega)
  have byz1 := BZ0.out.only d1 (by intro e; rcases e with e | e <;> omega)
  have hzy1 : w.heap.size + 2 ≤ y1.heap.size := by have := d1.size; omega
  obtain ⟨X1, e1, sh1⟩ := ows_shape o1
  obtain rfl := sh1.val
  have BX1 := Lib.hid (Box_set2 byx1 p1 X1 e1)
  have BB1 : Below (w.heap.size + 1) y1 (y1.setCell ⟨w.heap.size + 1, 2, none⟩ (.slice X1 p1.length e1)) := Below.setCell (Below.refl (w.heap.size + 1) y1) (show w.heap.size + 1 ≤ (⟨w.heap.size + 1, 2, none⟩ : Addr).block from Nat.le_refl _) (.slice X1 p1.length e1)
  have PB1 : Only (fun j => j = w.heap.size + 1) y1 (y1.setCell ⟨w.heap.size + 1, 2, none⟩ (.slice X1 p1.length e1)) := Only.put (F := fun j => j = w.heap.size + 1) (ad := ⟨w.heap.size + 1, 2, none⟩) (Only.refl _ _) rfl (.slice X1 p1.length e1)
  have BZ1 := Lib.hid (byz1.only PB1 (by intro e; omega))
  have HT1 : Hid (Only (Two g h) w (y1.setCell ⟨w.heap.size + 1, 2, none⟩ (.slice X1 p1.length e1))) := HTy1.setCell (Or.inr (by show w.heap.size ≤ w.heap.size + 1; omega)) _
  have st1 := more_part rdL ST0.out.1 ST0.out.2 (y := 109) (fun c v => { c with keys := v }) (fun c l => by unfold rdPart; simp (decide := true) only [if_true, if_false]) b1
  rw [← rdAll_snoc] at st1
  obtain ⟨s1, hs1⟩ : ∃ s, s = ((some p).bind rdL).map (·.2) := ⟨_, rfl⟩
  rw [← hs1] at st1 c1
  have ST1 : Hid (s1 = (rdAll [109] (bare ((k : Int) + 1)) p).map (·.2) ∧ ∀ q, rdAll [109] (bare ((k : Int) + 1)) p = some q → q.1 = (⟨(k : Int) + 1, [], p1, [], [], 0, 0, [], [], []⟩ : Cmd)) := st1
  have RQ1 := Lib.hid (Rq.low c1 BB1 (by omega) (by omega))
  have AL1 := Lib.hid a1
  have IL1 := Lib.hid i1
  have SB1 : Hid (∀ a, X1 = some a → w.heap.size + 2 ≤ a.block ∧ True) := fun a ha => ⟨by have := (sh1.base a ha).1; have hz := hz0; omega, trivial⟩
  have SN1 := Lib.hid sh1.non
  have SR1 : Hid (Rd (y1.setCell ⟨w.heap.size + 1, 2, none⟩ (.slice X1 p1.length e1)) X1 p1) := Rd.only sh1.rd PB1 (fun a ha e => by have := (SB1.out a ha).1; omega)
  have SZ1 : Hid (∀ a, X1 = some a → a.block < (y1.setCell ⟨w.heap.size + 1, 2, none⟩ (.slice X1 p1.length e1)).heap.size) := fun a ha => by have := (sh1.base a ha).2; simp; omega
  have hzu1c : w.heap.size + 2 ≤ (y1.setCell ⟨w.heap.size + 1, 2, none⟩ (.slice X1 p1.length e1)).heap.size := by simp; omega
  obtain ⟨x0_1, x1_1, x2_1, x3_1, x4_1, x5_1, x6_1, x7_1, x8_1, x9_1, un_1⟩ := byx1
  have fz := un_1 2
  clear sh1 o1 a1 b1 c1 d1 HTy1 byz1 BB1 PB1 st1 hs1 i1
  go_wp2_with fail
  clear x0_1 x1_1 x2_1 x3_1 x4_1 x5_1 x6_1 x7_1 x8_1 x9_1 un_1 fz
  obtain ⟨u1, hu1⟩ : ∃ u, u = (y1.setCell ⟨w.heap.size + 1, 2, none⟩ (.slice X1 p1.length e1)) := ⟨_, rfl⟩
  rw [← hu1] at BX1 BZ1 RQ1 HT1 hzu1c SR1 SZ1
  try rw [← hu1]
  clear hu1
  refine (has_mask 4 3 4 8 false _ (by omega) rfl (by omega) rfl (by decide)).mono ?_
  rintro e wx ⟨rfl, rfl⟩
  go_wp2_with fail
  refine (has_mask 4 4 4 16 false _ (by omega) rfl (by omega) rfl (by decide)).mono ?_
  rintro e wx ⟨rfl, rfl⟩
  go_wp2_with fail
  refine (has_mask 4 5 4 32 false _ (by omega) rfl (by omega) rfl (by decide)).mono ?_
  rintro e wx ⟨rfl, rfl⟩
  go_wp2_with fail
  refine (has_mask 4 6 4 64 false _ (by omega) rfl (by omega) rfl (by decide)).mono ?_
  rintro e wx ⟨rfl, rfl⟩
  go_wp2_with fail
  refine (has_mask 4 7 4 128 false _ (by omega) rfl (by omega) rfl (by decide)).mono ?_
  rintro e wx ⟨rfl, rfl⟩
  go_wp2_with fail
  refine (has_mask 4 8 4 256 false _ (by omega) rfl (by omega) rfl (by decide)).mono ?_
  rintro e wx ⟨rfl, rfl⟩
  obtain ⟨F0, F1, F2, F3, F4, F5, F6, F7, F8, F9, fun_⟩ := BX1.out
  have f0 : u1.cell? ⟨w.heap.size + 1, 0, none⟩ = some (.int .i64 ((k : Int) + 1)) := F0
  have f1 : u1.cell? ⟨w.heap.size + 1, 1, none⟩ = some (.string ⟨#[]⟩) := F1
  have f2 : u1.cell? ⟨w.heap.size + 1, 2, none⟩ = some (.slice X1 p1.length e1) := F2
  have f3 : u1.cell? ⟨w.heap.size + 1, 3, none⟩ = some (.slice none 0 0) := F3
  have f4 : u1.cell? ⟨w.heap.size + 1, 4, none⟩ = some (.slice none 0 0) := F4
  have f5 : u1.cell? ⟨w.heap.size + 1, 5, none⟩ = some (.int .u64 0) := F5
  have f6 : u1.cell? ⟨w.heap.size + 1, 6, none⟩ = some (.int .u64 0) := F6
  have f7 : u1.cell? ⟨w.heap.size + 1, 7, none⟩ = some (.string ⟨#[]⟩) := F7
  have f8 : u1.cell? ⟨w.heap.size + 1, 8, none⟩ = some (.string ⟨#[]⟩) := F8
  have f9 : u1.cell? ⟨w.heap.size + 1, 9, none⟩ = some (.string ⟨#[]⟩) := F9
  clear F0 F1 F2 F3 F4 F5 F6 F7 F8 F9
  obtain ⟨z0, z1, z2, z3, z4, z5, z6, z7, z8, z9, zun⟩ := BZ1.out
  have zu0 := zun 0
  have zu1 := zun 1
  have zu2 := zun 2
  have zu3 := zun 3
  have zu4 := zun 4
  have zu5 := zun 5
  have zu6 := zun 6
  have zu7 := zun 7
  have zu8 := zun 8
  have zu9 := zun 9
  go_wp2_with fail
  have HF := put10 u1 w.heap.size (.int .i64 ((k : Int) + 1)) (.string ⟨#[]⟩) (.slice X1 p1.length e1) (.slice none 0 0) (.slice none 0 0) (.int .u64 0) (.int .u64 0) (.string ⟨#[]⟩) (.string ⟨#[]⟩) (.string ⟨#[]⟩)
  have HZ : u1.heap.size = (((((((((((u1.setCell ⟨w.heap.size, 0, none⟩ (.int .i64 ((k : Int) + 1))).setCell ⟨w.heap.size, 1, none⟩ (.string ⟨#[]⟩)).setCell ⟨w.heap.size, 2, none⟩ (.slice X1 p1.length e1)).setCell ⟨w.heap.size, 3, none⟩ (.slice none 0 0)).setCell ⟨w.heap.size, 4, none⟩ (.slice none 0 0)).setCell ⟨w.heap.size, 5, none⟩ (.int .u64 0)).setCell ⟨w.heap.size, 6, none⟩ (.int .u64 0)).setCell ⟨w.heap.size, 7, none⟩ (.string ⟨#[]⟩)).setCell ⟨w.heap.size, 8, none⟩ (.string ⟨#[]⟩)).setCell ⟨w.heap.size, 9, none⟩ (.string ⟨#[]⟩))).heap.size := by simp
  refine bodyPost_ret (v := .agg #[.int .i64 ((k : Int) + 1), .string ⟨#[]⟩, .slice X1 p1.length e1, .slice none 0 0, .slice none 0 0, .int .u64 0, .int .u64 0, .string ⟨#[]⟩, .string ⟨#[]⟩, .string ⟨#[]⟩]) (by simp [results, Tryd.results25, go_sem, z0, z1, z2, z3, z4, z5, z6, z7, z8, z9]) rfl ⟨⟨(⟨(k : Int) + 1, [], p1, [], [], 0, 0, [], [], []⟩ : Cmd), X1, e1, none, 0, none, 0⟩, rfl, ?_, ST1.out.2, ?_, ?_⟩
  · refine ⟨⟨(Rd.only SR1.out HF (fun a ha e => by have := (SB1.out a ha).1; omega)), (SN1.out), (Rb.nil _ _), (fun _ => rfl), (Rd.nil _ _), (fun _ => rfl)⟩, ⟨by show _ ≤ (k : Int) + 1; omega, by show (k : Int) + 1 ≤ _; omega, (Nat.zero_le _), (Nat.zero_le _), (Nat.zero_le _), (Nat.zero_le _), (Nat.zero_le _), (by have := IL1.out; show p1.length ≤ _; omega), (Nat.zero_le _), (fun s hs => by have := AL1.out s hs; omega), (fun s hs => by cases hs), (by show 0 < 18446744073709551616; omega), (by show 0 < 18446744073709551616; omega)⟩, (by have := IL1.out; show p1.length ≤ _; omega), (Nat.zero_le _), (fun a ha => ⟨by have := (SB1.out a ha).1; omega, by have := SZ1.out a ha; rw [← HZ]; exact this⟩), (fun a ha => by cases ha), (fun a ha => by cases ha)⟩
  · rw [← ST1.out.1]; exact Rq.low RQ1.out (HF.below (B := w.heap.size) (fun j e => by omega) (by omega)) hgl hhl
  · exact HT1.out.trans (HF.mono (fun j _ e => Or.inr (by omega)))
set_option maxRecDepth 100000 in
set_option maxHeartbeats 4000000 in
theorem cmd33 (B k : Nat) (hk : k < 15) (hm : maskN k = 33) (p : Bs) (w : World) (g h : Nat) (he : Env w) (hq : Rq B w g h (some p)) :
    Calls Tryd.prog 25 #[.pointer (some ⟨h, 0, none⟩), .int .i64 ((k : Int) + 1)] w (tkC B w g h (rdAll [107, 108] (bare ((k : Int) + 1)) p)) := by
  have hmk := he.mask k hk
  rw [hm] at hmk
  have hg0 := he.size
  have hhl := hq.lt
  have hgl : g < w.heap.size := by obtain ⟨l, hr, _⟩ := hq.rd; exact hr.lt
  obtain ⟨w0, hw0⟩ : ∃ w0, w0 = (w.alloc (comO zeroC)).alloc (comO (startC ((k : Int) + 1))) := ⟨_, rfl⟩
  have B0 : Below w.heap.size w w0 := by rw [hw0]; exact two_below _ _ _
  have BX0 : Hid (Box w0 (w.heap.size + 1) (startC ((k : Int) + 1))) := by
    have hb := Box.new (w.alloc (comO zeroC)) (startC ((k : Int) + 1))
    have e : (w.alloc (comO zeroC)).heap.size = w.heap.size + 1 := by simp
    rw [e] at hb
    show Box _ _ _
    rw [hw0]; exact hb
  have BZ0 : Hid (Box w0 w.heap.size zeroC) := by show Box _ _ _; rw [hw0]; exact (Box.new w zeroC).below (alloc_below _ _) (Nat.le_refl _)
  have RQ0 := Lib.hid (hq.below B0 (Nat.le_refl _))
  have HT0 : Hid (Only (Two g h) w w0) := Only.of_below B0 (Nat.le_refl _) _
  have hz0 : w.heap.size + 2 ≤ w0.heap.size := by rw [hw0]; simp
  have ST0 : Hid ((some p) = (rdAll [] (bare ((k : Int) + 1)) p).map (·.2) ∧ ∀ q, rdAll [] (bare ((k : Int) + 1)) p = some q → q.1 = (startC ((k : Int) + 1)).c) := ⟨rfl, fun q hq => by cases hq; rfl⟩
  have e0 : comO zeroC = .cells #[.int .i64 0, .string ⟨#[]⟩, .slice none 0 0, .slice none 0 0, .slice none 0 0, .int .u64 0, .int .u64 0, .string ⟨#[]⟩, .string ⟨#[]⟩, .string ⟨#[]⟩] 43 := rfl
  have e1 : comO (startC ((k : Int) + 1)) = .cells #[.int .i64 ((k : Int) + 1), .string ⟨#[]⟩, .slice none 0 0, .slice none 0 0, .slice none 0 0, .int .u64 0, .int .u64 0, .string ⟨#[]⟩, .string ⟨#[]⟩, .string ⟨#[]⟩] 43 := rfl
  rw [e0, e1] at hw0
  clear e0 e1
  have hkk : (k : Int) + 1 ≤ 15 := by omega
  clear B0 hq he hm
  go_enter Tryd.func25, Tryd.ntmps25
  go_wp2_with fail
  rw [← hw0]
  clear hw0
  refine (has_mask 33 0 33 1 true _ (by omega) rfl (by omega) rfl (by decide)).mono ?_
  rintro e wx ⟨rfl, rfl⟩
  go_wp2_with fail
  refine (text_r B _ g h _ RQ0.out).mono ?_
  rintro e y1 ⟨p1, rfl, a1, b1, c1, d1⟩
  have HTy1 : Only (Two g h) w y1 := HT0.out.trans (d1.mono (fun j _ e => Or.inl e))
  have byx1 := BX0.out.only d1 (by intro e; rcases e with e | e <;> omega)
  have byz1 := BZ0.out.only d1 (by intro e; rcases e with e | e <;> omega)
  have hzy1 : w.heap.size + 2 ≤ y1.heap.size := by have := d1.size; omega
  have BX1 := Lib.hid (Box_set0 byx1 p1)
  have BB1 : Below (w.heap.size + 1) y1 (y1.setCell ⟨w.heap.size + 1, 1, none⟩ (.string ⟨p1.toArray⟩)) := Below.setCell (Below.refl (w.heap.size + 1) y1) (show w.heap.size + 1 ≤ (⟨w.heap.size + 1, 1, none⟩ : Addr).block from Nat.le_refl _) (.string ⟨p1.toArray⟩)
  have PB1 : Only (fun j => j = w.heap.size + 1) y1 (y1.setCell ⟨w.heap.size + 1, 1, none⟩ (.string ⟨p1.toArray⟩)) := Only.put (F := fun j => j = w.heap.size + 1) (ad := ⟨w.heap.size + 1, 1, none⟩) (Only.refl _ _) rfl (.string ⟨p1.toArray⟩)
  have BZ1 := Lib.hid (byz1.only PB1 (by intro e; omega))
  have HT1 : Hid (Only (Two g h) w (y1.setCell ⟨w.heap.size + 1, 1, none⟩ (.string ⟨p1.toArray⟩))) := HTy1.setCell (Or.inr (by show w.heap.size ≤ w.heap.size + 1; omega)) _
  have st1 := more_part rdS ST0.out.1 ST0.out.2 (y := 107) (fun c v => { c with key := v }) (fun c l => by unfold rdPart; simp (decide := true) only [if_true, if_false]) b1
  rw [← rdAll_snoc] at st1
  obtain ⟨s1, hs1⟩ : ∃ s, s = ((some p).bind rdS).map (·.2) := ⟨_, rfl⟩
  rw [← hs1] at st1 c1
  have ST1 : Hid (s1 = (rdAll [107] (bare ((k : Int) + 1)) p).map (·.2) ∧ ∀ q, rdAll [107] (bare ((k : Int) + 1)) p = some q → q.1 = (⟨(k : Int) + 1, p1, [], [], [], 0, 0, [], [], []⟩ : Cmd)) := st1
  have RQ1 := Lib.hid (Rq.low c1 BB1 (by omega) (by omega))
  have AL1 := Lib.hid a1
  have hzu1c : w.heap.size + 2 ≤ (y1.setCell ⟨w.heap.size + 1, 1, none⟩ (.string ⟨p1.toArray⟩)).heap.size := by simp; omega
  obtain ⟨x0_1, x1_1, x2_1, x3_1, x4_1, x5_1, x6_1, x7_1, x8_1, x9_1, un_1⟩ := byx1
  have fz := un_1 1
  clear  a1 b1 c1 d1 HTy1 byz1 BB1 PB1 st1 hs1 
  go_wp2_with fail
  clear x0_1 x1_1 x2_1 x3_1 x4_1 x5_1 x6_1 x7_1 x8_1 x9_1 un_1 fz
  obtain ⟨u1, hu1⟩ : ∃ u, u = (y1.setCell ⟨w.heap.size + 1, 1, none⟩ (.string ⟨p1.toArray⟩)) := ⟨_, rfl⟩
  rw [← hu1] at BX1 BZ1 RQ1 HT1 hzu1c 
  try rw [← hu1]
  clear hu1
  refine (has_mask 33 1 33 2 false _ (by omega) rfl (by omega) rfl (by decide)).mono ?_
  rintro e wx ⟨rfl, rfl⟩
  go_wp2_with fail
  refine (has_mask 33 2 33 4 false _ (by omega) rfl (by omega) rfl (by decide)).mono ?_
  rintro e wx ⟨rfl, rfl⟩
  go_wp2_with fail
  refine (has_mask 33 3 33 8 false _ (by omega) rfl (by omega) rfl (by decide)).mono ?_
  rintro e wx ⟨rfl, rfl⟩
  go_wp2_with fail
  refine (has_mask 33 4 33 16 false _ (by omega) rfl (by omega) rfl (by decide)).mono ?_
  rintro e wx ⟨rfl, rfl⟩
  go_wp2_with fail
  refine (has_mask 33 5 33 32 true _ (by omega) rfl (by omega) rfl (by decide)).mono ?_
  rintro e wx ⟨rfl, rfl⟩
  go_wp2_with fail
  refine (number_r B _ g h _ RQ1.out).mono ?_
  rintro e y2 ⟨p2, rfl, a2, b2, c2, d2⟩
  have HTy2 : Only (Two g h) w y2 := HT1.out.trans (d2.mono (fun j _ e => Or.inl e))
  have byx2 := BX1.out.only d2 (by intro e; rcases e with e | e <;> omega)
  have byz2 := BZ1.out.only d2 (by intro e; rcases e with e | e <;> omega)
  have hzy2 : w.heap.size + 2 ≤ y2.heap.size := by have := d2.size; omega
  have BX2 := Lib.hid (Box_set5 byx2 p2)
  have BB2 : Below (w.heap.size + 1) y2 (y2.setCell ⟨w.heap.size + 1, 5, none⟩ (.int .u64 (p2 : Int))) := Below.setCell (Below.refl (w.heap.size + 1) y2) (show w.heap.size + 1 ≤ (⟨w.heap.size + 1, 5, none⟩ : Addr).block from Nat.le_refl _) (.int .u64 (p2 : Int))
  have PB2 : Only (fun j => j = w.heap.size + 1) y2 (y2.setCell ⟨w.heap.size + 1, 5, none⟩ (.int .u64 (p2 : Int))) := Only.put (F := fun j => j = w.heap.size + 1) (ad := ⟨w.heap.size + 1, 5, none⟩) (Only.refl _ _) rfl (.int .u64 (p2 : Int))
  have BZ2 := Lib.hid (byz2.only PB2 (by intro e; omega))
  have HT2 : Hid (Only (Two g h) w (y2.setCell ⟨w.heap.size + 1, 5, none⟩ (.int .u64 (p2 : Int)))) := HTy2.setCell (Or.inr (by show w.heap.size ≤ w.heap.size + 1; omega)) _
  have st2 := more_part rdN ST1.out.1 ST1.out.2 (y := 108) (fun c v => { c with life := v }) (fun c l => by unfold rdPart; simp (decide := true) only [if_true, if_false]) b2
  rw [← rdAll_snoc] at st2
  obtain ⟨s2, hs2⟩ : ∃ s, s = (s1.bind rdN).map (·.2) := ⟨_, rfl⟩
  rw [← hs2] at st2 c2
  have ST2 : Hid (s2 = (rdAll [107, 108] (bare ((k : Int) + 1)) p).map (·.2) ∧ ∀ q, rdAll [107, 108] (bare ((k : Int) + 1)) p = some q → q.1 = (⟨(k : Int) + 1, p1, [], [], [], p2, 0, [], [], []⟩ : Cmd)) := st2
  have RQ2 := Lib.hid (Rq.low c2 BB2 (by omega) (by omega))
  have AL2 := Lib.hid a2
  have hzu2c : w.heap.size + 2 ≤ (y2.setCell ⟨w.heap.size + 1, 5, none⟩ (.int .u64 (p2 : Int))).heap.size := by simp; omega
  obtain ⟨x0_2, x1_2, x2_2, x3_2, x4_2, x5_2, x6_2, x7_2, x8_2, x9_2, un_2⟩ := byx2
  have fz := un_2 5
  clear  a2 b2 c2 d2 HTy2 byz2 BB2 PB2 st2 hs2 
  go_wp2_with fail
  clear x0_2 x1_2 x2_2 x3_2 x4_2 x5_2 x6_2 x7_2 x8_2 x9_2 un_2 fz
  obtain ⟨u2, hu2⟩ : ∃ u, u = (y2.setCell ⟨w.heap.size + 1, 5, none⟩ (.int .u64 (p2 : Int))) := ⟨_, rfl⟩
  rw [← hu2] at BX2 BZ2 RQ2 HT2 hzu2c 
  try rw [← hu2]
  clear hu2
  refine (has_mask 33 6 33 64 false _ (by omega) rfl (by omega) rfl (by decide)).mono ?_
  rintro e wx ⟨rfl, rfl⟩
  go_wp2_with fail
  refine (has_mask 33 7 33 128 false _ (by omega) rfl (by omega) rfl (by decide)).mono ?_
  rintro e wx ⟨rfl, rfl⟩
  go_wp2_with fail
  refine (has_mask 33 8 33 256 false _ (by omega) rfl (by omega) rfl (by decide)).mono ?_
  rintro e wx ⟨rfl, rfl⟩
  obtain ⟨F0, F1, F2, F3, F4, F5, F6, F7, F8, F9, fun_⟩ := BX2.out
  have f0 : u2.cell? ⟨w.heap.size + 1, 0, none⟩ = some (.int .i64 ((k : Int) + 1)) := F0
  have f1 : u2.cell? ⟨w.heap.size + 1, 1, none⟩ = some (.string ⟨p1.toArray⟩) := F1
  have f2 : u2.cell? ⟨w.heap.size + 1, 2, none⟩ = some (.slice none 0 0) := F2
  have f3 : u2.cell? ⟨w.heap.size + 1, 3, none⟩ = some (.slice none 0 0) := F3
  have f4 : u2.cell? ⟨w.heap.size + 1, 4, none⟩ = some (.slice none 0 0) := F4
  have f5 : u2.cell? ⟨w.heap.size + 1, 5, none⟩ = some (.int .u64 (p2 : Int)) := F5
  have f6 : u2.cell? ⟨w.heap.size + 1, 6, none⟩ = some (.int .u64 0) := F6
  have f7 : u2.cell? ⟨w.heap.size + 1, 7, none⟩ = some (.string ⟨#[]⟩) := F7
  have f8 : u2.cell? ⟨w.heap.size + 1, 8, none⟩ = some (.string ⟨#[]⟩) := F8
  have f9 : u2.cell? ⟨w.heap.size + 1, 9, none⟩ = some (.string ⟨#[]⟩) := F9
  clear F0 F1 F2 F3 F4 F5 F6 F7 F8 F9
  obtain ⟨z0, z1, z2, z3, z4, z5, z6, z7, z8, z9, zun⟩ := BZ2.out
  have zu0 := zun 0
  have zu1 := zun 1
  have zu2 := zun 2
  have zu3 := zun 3
  have zu4 := zun 4
  have zu5 := zun 5
  have zu6 := zun 6
  have zu7 := zun 7
  have zu8 := zun 8
  have zu9 := zun 9
  go_wp2_with fail
  have HF := put10 u2 w.heap.size (.int .i64 ((k : Int) + 1)) (.string ⟨p1.toArray⟩) (.slice none 0 0) (.slice none 0 0) (.slice none 0 0) (.int .u64 (p2 : Int)) (.int .u64 0) (.string ⟨#[]⟩) (.string ⟨#[]⟩) (.string ⟨#[]⟩)
  have HZ : u2.heap.size = (((((((((((u2.setCell ⟨w.heap.size, 0, none⟩ (.int .i64 ((k : Int) + 1))).setCell ⟨w.heap.size, 1, none⟩ (.string ⟨p1.toArray⟩)).setCell ⟨w.heap.size, 2, none⟩ (.slice none 0 0)).setCell ⟨w.heap.size, 3, none⟩ (.slice none 0 0)).setCell ⟨w.heap.size, 4, none⟩ (.slice none 0 0)).setCell ⟨w.heap.size, 5, none⟩ (.int .u64 (p2 : Int))).setCell ⟨w.heap.size, 6, none⟩ (.int .u64 0)).setCell ⟨w.heap.size, 7, none⟩ (.string ⟨#[]⟩)).setCell ⟨w.heap.size, 8, none⟩ (.string ⟨#[]⟩)).setCell ⟨w.heap.size, 9, none⟩ (.string ⟨#[]⟩))).heap.size := by simp
  refine bodyPost_ret (v := .agg #[.int .i64 ((k : Int) + 1), .string ⟨p1.toArray⟩, .slice none 0 0, .slice none 0 0, .slice none 0 0, .int .u64 (p2 : Int), .int .u64 0, .string ⟨#[]⟩, .string ⟨#[]⟩, .string ⟨#[]⟩]) (by simp [results, Tryd.results25, go_sem, z0, z1, z2, z3, z4, z5, z6, z7, z8, z9]) rfl ⟨⟨(⟨(k : Int) + 1, p1, [], [], [], p2, 0, [], [], []⟩ : Cmd), none, 0, none, 0, none, 0⟩, rfl, ?_, ST2.out.2, ?_, ?_⟩
  · refine ⟨⟨(Rd.nil _ _), (fun _ => rfl), (Rb.nil _ _), (fun _ => rfl), (Rd.nil _ _), (fun _ => rfl)⟩, ⟨by show _ ≤ (k : Int) + 1; omega, by show (k : Int) + 1 ≤ _; omega, (by have := AL1.out; show p1.length ≤ _; omega), (Nat.zero_le _), (Nat.zero_le _), (Nat.zero_le _), (Nat.zero_le _), (Nat.zero_le _), (Nat.zero_le _), (fun s hs => by cases hs), (fun s hs => by cases hs), (by have := AL2.out; unfold big at this; exact this), (by show 0 < 18446744073709551616; omega)⟩, (Nat.zero_le _), (Nat.zero_le _), (fun a ha => by cases ha), (fun a ha => by cases ha), (fun a ha => by cases ha)⟩
  · rw [← ST2.out.1]; exact Rq.low RQ2.out (HF.below (B := w.heap.size) (fun j e => by omega) (by omega)) hgl hhl
  · exact HT2.out.trans (HF.mono (fun j _ e => Or.inr (by omega)))
set_option maxRecDepth 100000 in
set_option maxHeartbeats 4000000 in
theorem cmd128 (B k : Nat) (hk : k < 15) (hm : maskN k = 128) (p : Bs) (w : World) (g h : Nat) (he : Env w) (hq : Rq B w g h (some p)) :
    Calls Tryd.prog 25 #[.pointer (some ⟨h, 0, none⟩), .int .i64 ((k : Int) + 1)] w (tkC B w g h (rdAll [103] (bare ((k : Int) + 1)) p)) := by
  have hmk := he.mask k hk
  rw [hm] at hmk
  have hg0 := he.size
  have hhl := hq.lt
  have hgl : g < w.heap.size := by obtain ⟨l, hr, _⟩ := hq.rd; exact hr.lt
  obtain ⟨w0, hw0⟩ : ∃ w0, w0 = (w.alloc (comO zeroC)).alloc (comO (startC ((k : Int) + 1))) := ⟨_, rfl⟩
  have B0 : Below w.heap.size w w0 := by rw [hw0]; exact two_below _ _ _
  have BX0 : Hid (Box w0 (w.heap.size + 1) (startC ((k : Int) + 1))) := by
    have hb := Box.new (w.alloc (comO zeroC)) (startC ((k : Int) + 1))
    have e : (w.alloc (comO zeroC)).heap.size = w.heap.size + 1 := by simp
    rw [e] at hb
    show Box _ _ _
    rw [hw0]; exact hb
  have BZ0 : Hid (Box w0 w.heap.size zeroC) := by show Box _ _ _; rw [hw0]; exact (Box.new w zeroC).below (alloc_below _ _) (Nat.le_refl _)
  have RQ0 := Lib.hid (hq.below B0 (Nat.le_refl _))
  have HT0 : Hid (Only (Two g h) w w0) := Only.of_below B0 (Nat.le_refl _) _
  have hz0 : w.heap.size + 2 ≤ w0.heap.size := by rw [hw0]; simp
  have ST0 : Hid ((some p) = (rdAll [] (bare ((k : Int) + 1)) p).map (·.2) ∧ ∀ q, rdAll [] (bare ((k : Int) + 1)) p = some q → q.1 = (startC ((k : Int) + 1)).c) := ⟨rfl, fun q hq => by cases hq; rfl⟩
  have e0 : comO zeroC = .cells #[.int .i64 0, .string ⟨#[]⟩, .slice none 0 0, .slice none 0 0, .slice none 0 0, .int .u64 0, .int .u64 0, .string ⟨#[]⟩, .string ⟨#[]⟩, .string ⟨#[]⟩] 43 := rfl
  have e1 : comO (startC ((k : Int) + 1)) = .cells #[.int .i64 ((k : Int) + 1), .string ⟨#[]⟩, .slice none 0 0, .slice none 0 0, .slice none 0 0, .int .u64 0, .int .u64 0, .string ⟨#[]⟩, .string ⟨#[]⟩, .string ⟨#[]⟩] 43 := rfl
  rw [e0, e1] at hw0
  clear e0 e1
  have hkk : (k : Int) + 1 ≤ 15 := by omega
  clear B0 hq he hm
  go_enter Tryd.func25, Tryd.ntmps25
  go_wp2_with fail
  rw [← hw0]
  clear hw0
  refine (has_mask 128 0 128 1 false _ (by omega) rfl (by omega) rfl (by decide)).mono ?_
  rintro e wx ⟨rfl, rfl⟩
  go_wp2_with fail
  refine (has_mask 128 1 128 2 false _ (by omega) rfl (by omega) rfl (by decide)).mono ?_
  rintro e wx ⟨rfl, rfl⟩
  go_wp2_with fail
  refine (has_mask 128 2 128 4 false _ (by omega) rfl (by omega) rfl (by decide)).mono ?_
  rintro e wx ⟨rfl, rfl⟩
  go_wp2_with fail
  refine (has_mask 128 3 128 8 false _ (by omega) rfl (by omega) rfl (by decide)).mono ?_
  rintro e wx ⟨rfl, rfl⟩
  go_wp2_with fail
  refine (has_mask 128 4 128 16 false _ (by omega) rfl (by omega) rfl (by decide)).mono ?_
  rintro e wx ⟨rfl, rfl⟩
  go_wp2_with fail
  refine (has_mask 128 5 128 32 false _ (by omega) rfl (by omega) rfl (by decide)).mono ?_
  rintro e wx ⟨rfl, rfl⟩
  go_wp2_with fail
  refine (has_mask 128 6 128 64 false _ (by omega) rfl (by omega) rfl (by decide)).mono ?_
  rintro e wx ⟨rfl, rfl⟩
  go_wp2_with fail
  refine (has_mask 128 7 128 128 true _ (by omega) rfl (by omega) rfl (by decide)).mono ?_
  rintro e wx ⟨rfl, rfl⟩
  go_wp2_with fail
  refine (text_r B _ g h _ RQ0.out).mono ?_
  rintro e y1 ⟨p1, rfl, a1, b1, c1, d1⟩
  have HTy1 : Only (Two g h) w y1 := HT0.out.trans (d1.mono (fun j _ e => Or.inl e))
  have byx1 := BX0.out.only d1 (by intro e; rcases e with e | e <;> omega)
  have byz1 := BZ0.out.only d1 (by intro e; rcases e with e | e <;> omega)
  have hzy1 : w.heap.size + 2 ≤ y1.heap.size := by have := d1.size; omega
  have BX1 := Lib.hid (Box_set7 byx1 p1)
  have BB1 : Below (w.heap.size + 1) y1 (y1.setCell ⟨w.heap.size + 1, 7, none⟩ (.string ⟨p1.toArray⟩)) := Below.setCell (Below.refl (w.heap.size + 1) y1) (show w.heap.size + 1 ≤ (⟨w.heap.size + 1, 7, none⟩ : Addr).block from Nat.le_refl _) (.string ⟨p1.toArray⟩)
  have PB1 : Only (fun j => j = w.heap.size + 1) y1 (y1.setCell ⟨w.heap.size + 1, 7, none⟩ (.string ⟨p1.toArray⟩)) := Only.put (F := fun j => j = w.heap.size + 1) (ad := ⟨w.heap.size + 1, 7, none⟩) (Only.refl _ _) rfl (.string ⟨p1.toArray⟩)
  have BZ1 := Lib.hid (byz1.only PB1 (by intro e; omega))
  have HT1 : Hid (Only (Two g h) w (y1.setCell ⟨w.heap.size + 1, 7, none⟩ (.string ⟨p1.toArray⟩))) := HTy1.setCell (Or.inr (by show w.heap.size ≤ w.heap.size + 1; omega)) _
  have st1 := more_part rdS ST0.out.1 ST0.out.2 (y := 103) (fun c v => { c with tag := v }) (fun c l => by unfold rdPart; simp (decide := true) only [if_true, if_false]) b1
  rw [← rdAll_snoc] at st1
  obtain ⟨s1, hs1⟩ : ∃ s, s = ((some p).bind rdS).map (·.2) := ⟨_, rfl⟩
  rw [← hs1] at st1 c1
  have ST1 : Hid (s1 = (rdAll [103] (bare ((k : Int) + 1)) p).map (·.2) ∧ ∀ q, rdAll [103] (bare ((k : Int) + 1)) p = some q → q.1 = (⟨(k : Int) + 1, [], [], [], [], 0, 0, p1, [], []⟩ : Cmd)) := st1
  have RQ1 := Lib.hid (Rq.low c1 BB1 (by omega) (by omega))
  have AL1 := Lib.hid a1
  have hzu1c : w.heap.size + 2 ≤ (y1.setCell ⟨w.heap.size + 1, 7, none⟩ (.string ⟨p1.toArray⟩)).heap.size := by simp; omega
  obtain ⟨x0_1, x1_1, x2_1, x3_1, x4_1, x5_1, x6_1, x7_1, x8_1, x9_1, un_1⟩ := byx1
  have fz := un_1 7
  clear  a1 b1 c1 d1 HTy1 byz1 BB1 PB1 st1 hs1 
  go_wp2_with fail
  clear x0_1 x1_1 x2_1 x3_1 x4_1 x5_1 x6_1 x7_1 x8_1 x9_1 un_1 fz
  obtain ⟨u1, hu1⟩ : ∃ u, u = (y1.setCell ⟨w.heap.size + 1, 7, none⟩ (.string ⟨p1.toArray⟩)) := ⟨_, rfl⟩
  rw [← hu1] at BX1 BZ1 RQ1 HT1 hzu1c 
  try rw [← hu1]
  clear hu1
  refine (has_mask 128 8 128 256 false _ (by omega) rfl (by omega) rfl (by decide)).mono ?_
  rintro e wx ⟨rfl, rfl⟩
  obtain ⟨F0, F1, F2, F3, F4, F5, F6, F7, F8, F9, fun_⟩ := BX1.out
  have f0 : u1.cell? ⟨w.heap.size + 1, 0, none⟩ = some (.int .i64 ((k : Int) + 1)) := F0
  have f1 : u1.cell? ⟨w.heap.size + 1, 1, none⟩ = some (.string ⟨#[]⟩) := F1
  have f2 : u1.cell? ⟨w.heap.size + 1, 2, none⟩ = some (.slice none 0 0) := F2
  have f3 : u1.cell? ⟨w.heap.size + 1, 3, none⟩ = some (.slice none 0 0) := F3
  have f4 : u1.cell? ⟨w.heap.size + 1, 4, none⟩ = some (.slice none 0 0) := F4
  have f5 : u1.cell? ⟨w.heap.size + 1, 5, none⟩ = some (.int .u64 0) := F5
  have f6 : u1.cell? ⟨w.heap.size + 1, 6, none⟩ = some (.int .u64 0) := F6
  have f7 : u1.cell? ⟨w.heap.size + 1, 7, none⟩ = some (.string ⟨p1.toArray⟩) := F7
  have f8 : u1.cell? ⟨w.heap.size + 1, 8, none⟩ = some (.string ⟨#[]⟩) := F8
  have f9 : u1.cell? ⟨w.heap.size + 1, 9, none⟩ = some (.string ⟨#[]⟩) := F9
  clear F0 F1 F2 F3 F4 F5 F6 F7 F8 F9
  obtain ⟨z0, z1, z2, z3, z4, z5, z6, z7, z8, z9, zun⟩ := BZ1.out
  have zu0 := zun 0
  have zu1 := zun 1
  have zu2 := zun 2
  have zu3 := zun 3
  have zu4 := zun 4
  have zu5 := zun 5
  have zu6 := zun 6
  have zu7 := zun 7
  have zu8 := zun 8
  have zu9 := zun 9
  go_wp2_with fail
  have HF := put10 u1 w.heap.size (.int .i64 ((k : Int) + 1)) (.string ⟨#[]⟩) (.slice none 0 0) (.slice none 0 0) (.slice none 0 0) (.int .u64 0) (.int .u64 0) (.string ⟨p1.toArray⟩) (.string ⟨#[]⟩) (.string ⟨#[]⟩)
  have HZ : u1.heap.size = (((((((((((u1.setCell ⟨w.heap.size, 0, none⟩ (.int .i64 ((k : Int) + 1))).setCell ⟨w.heap.size, 1, none⟩ (.string ⟨#[]⟩)).setCell ⟨w.heap.size, 2, none⟩ (.slice none 0 0)).setCell ⟨w.heap.size, 3, none⟩ (.slice none 0 0)).setCell ⟨w.heap.size, 4, none⟩ (.slice none 0 0)).setCell ⟨w.heap.size, 5, none⟩ (.int .u64 0)).setCell ⟨w.heap.size, 6, none⟩ (.int .u64 0)).setCell ⟨w.heap.size, 7, none⟩ (.string ⟨p1.toArray⟩)).setCell ⟨w.heap.size, 8, none⟩ (.string ⟨#[]⟩)).setCell ⟨w.heap.size, 9, none⟩ (.string ⟨#[]⟩))).heap.size := by simp
  refine bodyPost_ret (v := .agg #[.int .i64 ((k : Int) + 1), .string ⟨#[]⟩, .slice none 0 0, .slice none 0 0, .slice none 0 0, .int .u64 0, .int .u64 0, .string ⟨p1.toArray⟩, .string ⟨#[]⟩, .string ⟨#[]⟩]) (by simp [results, Tryd.results25, go_sem, z0, z1, z2, z3, z4, z5, z6, z7, z8, z9]) rfl ⟨⟨(⟨(k : Int) + 1, [], [], [], [], 0, 0, p1, [], []⟩ : Cmd), none, 0, none, 0, none, 0⟩, rfl, ?_, ST1.out.2, ?_, ?_⟩
  · refine ⟨⟨(Rd.nil _ _), (fun _ => rfl), (Rb.nil _ _), (fun _ => rfl), (Rd.nil _ _), (fun _ => rfl)⟩, ⟨by show _ ≤ (k : Int) + 1; omega, by show (k : Int) + 1 ≤ _; omega, (Nat.zero_le _), (Nat.zero_le _), (by have := AL1.out; show p1.length ≤ _; omega), (Nat.zero_le _), (Nat.zero_le _), (Nat.zero_le _), (Nat.zero_le _), (fun s hs => by cases hs), (fun s hs => by cases hs), (by show 0 < 18446744073709551616; omega), (by show 0 < 18446744073709551616; omega)⟩, (Nat.zero_le _), (Nat.zero_le _), (fun a ha => by cases ha), (fun a ha => by cases ha), (fun a ha => by cases ha)⟩
  · rw [← ST1.out.1]; exact Rq.low RQ1.out (HF.below (B := w.heap.size) (fun j e => by omega) (by omega)) hgl hhl
  · exact HT1.out.trans (HF.mono (fun j _ e => Or.inr (by omega)))
set_option maxRecDepth 100000 in
set_option maxHeartbeats 4000000 in
theorem cmd256 (B k : Nat) (hk : k < 15) (hm : maskN k = 256) (p : Bs) (w : World) (g h : Nat) (he : Env w) (hq : Rq B w g h (some p)) :
    Calls Tryd.prog 25 #[.pointer (some ⟨h, 0, none⟩), .int .i64 ((k : Int) + 1)] w (tkC B w g h (rdAll [112] (bare ((k : Int) + 1)) p)) := by
  have hmk := he.mask k hk
  rw [hm] at hmk
  have hg0 := he.size
  have hhl := hq.lt
  have hgl : g < w.heap.size := by obtain ⟨l, hr, _⟩ := hq.rd; exact hr.lt
  obtain ⟨w0, hw0⟩ : ∃ w0, w0 = (w.alloc (comO zeroC)).alloc (comO (startC ((k : Int) + 1))) := ⟨_, rfl⟩
  have B0 : Below w.heap.size w w0 := by rw [hw0]; exact two_below _ _ _
  have BX0 : Hid (Box w0 (w.heap.size + 1) (startC ((k : Int) + 1))) := by
    have hb := Box.new (w.alloc (comO zeroC)) (startC ((k : Int) + 1))
    have e : (w.alloc (comO zeroC)).heap.size = w.heap.size + 1 := by simp
    rw [e] at hb
    show Box _ _ _
    rw [hw0]; exact hb
  have BZ0 : Hid (Box w0 w.heap.size zeroC) := by show Box _ _ _; rw [hw0]; exact (Box.new w zeroC).below (alloc_below _ _) (Nat.le_refl _)
  have RQ0 := Lib.hid (hq.below B0 (Nat.le_refl _))
  have HT0 : Hid (Only (Two g h) w w0) := Only.of_below B0 (Nat.le_refl _) _
  have hz0 : w.heap.size + 2 ≤ w0.heap.size := by rw [hw0]; simp
  have ST0 : Hid ((some p) = (rdAll [] (bare ((k : Int) + 1)) p).map (·.2) ∧ ∀ q, rdAll [] (bare ((k : Int) + 1)) p = some q → q.1 = (startC ((k : Int) + 1)).c) := ⟨rfl, fun q hq => by cases hq; rfl⟩
  have e0 : comO zeroC = .cells #[.int .i64 0, .string ⟨#[]⟩, .slice none 0 0, .slice none 0 0, .slice none 0 0, .int .u64 0, .int .u64 0, .string ⟨#[]⟩, .string ⟨#[]⟩, .string ⟨#[]⟩] 43 := rfl
  have e1 : comO (startC ((k : Int) + 1)) = .cells #[.int .i64 ((k : Int) + 1), .string ⟨#[]⟩, .slice none 0 0, .slice none 0 0, .slice none 0 0, .int .u64 0, .int .u64 0, .string ⟨#[]⟩, .string ⟨#[]⟩, .string ⟨#[]⟩] 43 := rfl
  rw [e0, e1] at hw0
  clear e0 e1
  have hkk : (k : Int) + 1 ≤ 15 := by omega
  clear B0 hq he hm
  go_enter Tryd.func25, Tryd.ntmps25
  go_wp2_with fail
  rw [← hw0]
  clear hw0
  refine (has_mask 256 0 256 1 false _ (by omega) rfl (by omega) rfl (by decide)).mono ?_
  rintro e wx ⟨rfl, rfl⟩
  go_wp2_with fail
  refine (has_mask 256 1 256 2 false _ (by omega) rfl (by omega) rfl (by decide)).mono ?_
  rintro e wx ⟨rfl, rfl⟩
  go_wp2_with fail
  refine (has_mask 256 2 256 4 false _ (by omega) rfl (by omega) rfl (by decide)).mono ?_
  rintro e wx ⟨rfl, rfl⟩
  go_wp2_with fail
  refine (has_mask 256 3 256 8 false _ (by omega) rfl (by omega) rfl (by decide)).mono ?_
  rintro e wx ⟨rfl, rfl⟩
  go_wp2_with fail
  refine (has_mask 256 4 256 16 false _ (by omega) rfl (by omega) rfl (by decide)).mono ?_
  rintro e wx ⟨rfl, rfl⟩
  go_wp2_with fail
  refine (has_mask 256 5 256 32 false _ (by omega) rfl (by omega) rfl (by decide)).mono ?_
  rintro e wx ⟨rfl, rfl⟩
  go_wp2_with fail
  refine (has_mask 256 6 256 64 false _ (by omega) rfl (by omega) rfl (by decide)).mono ?_
  rintro e wx ⟨rfl, rfl⟩
  go_wp2_with fail
  refine (has_mask 256 7 256 128 false _ (by omega) rfl (by omega) rfl (by decide)).mono ?_
  rintro e wx ⟨rfl, rfl⟩
  go_wp2_with fail
  refine (has_mask 256 8 256 256 true _ (by omega) rfl (by omega) rfl (by decide)).mono ?_
  rintro e wx ⟨rfl, rfl⟩
  go_wp2_with fail
  refine (text_r B _ g h _ RQ0.out).mono ?_
  rintro e y1 ⟨p1, rfl, a1, b1, c1, d1⟩
  have HTy1 : Only (Two g h) w y1 := HT0.out.trans (d1.mono (fun j _ e => Or.inl e))
  have byx1 := BX0.out.only d1 (by intro e; rcases e with e | e <;> omega)
  have byz1 := BZ0.out.only d1 (by intro e; rcases e with e | e <;> omega)
  have hzy1 : w.heap.size + 2 ≤ y1.heap.size := by have := d1.size; omega
  have BX1 := Lib.hid (Box_set8 byx1 p1)
  have BB1 : Below (w.heap.size + 1) y1 (y1.setCell ⟨w.heap.size + 1, 8, none⟩ (.string ⟨p1.toArray⟩)) := Below.setCell (Below.refl (w.heap.size + 1) y1) (show w.heap.size + 1 ≤ (⟨w.heap.size + 1, 8, none⟩ : Addr).block from Nat.le_refl _) (.string ⟨p1.toArray⟩)
  have PB1 : Only (fun j => j = w.heap.size + 1) y1 (y1.setCell ⟨w.heap.size + 1, 8, none⟩ (.string ⟨p1.toArray⟩)) := Only.put (F := fun j => j = w.heap.size + 1) (ad := ⟨w.heap.size + 1, 8, none⟩) (Only.refl _ _) rfl (.string ⟨p1.toArray⟩)
  have BZ1 := Lib.hid (byz1.only PB1 (by intro e; omega))
  have HT1 : Hid (Only (Two g h) w (y1.setCell ⟨w.heap.size + 1, 8, none⟩ (.string ⟨p1.toArray⟩))) := HTy1.setCell (Or.inr (by show w.heap.size ≤ w.heap.size + 1; omega)) _
  have st1 := more_part rdS ST0.out.1 ST0.out.2 (y := 112) (fun c v => { c with pre := v }) (fun c l => by unfold rdPart; simp (decide := true) only [if_true, if_false]) b1
  rw [← rdAll_snoc] at st1
  obtain ⟨s1, hs1⟩ : ∃ s, s = ((some p).bind rdS).map (·.2) := ⟨_, rfl⟩
  rw [← hs1] at st1 c1
  have ST1 : Hid (s1 = (rdAll [112] (bare ((k : Int) + 1)) p).map (·.2) ∧ ∀ q, rdAll [112] (bare ((k : Int) + 1)) p = some q → q.1 = (⟨(k : Int) + 1, [], [], [], [], 0, 0, [], p1, []⟩ : Cmd)) := st1
  have RQ1 := Lib.hid (Rq.low c1 BB1 (by omega) (by omega))
  have AL1 := Lib.hid a1
  have hzu1c : w.heap.size + 2 ≤ (y1.setCell ⟨w.heap.size + 1, 8, none⟩ (.string ⟨p1.toArray⟩)).heap.size := by simp; omega
  obtain ⟨x0_1, x1_1, x2_1, x3_1, x4_1, x5_1, x6_1, x7_1, x8_1, x9_1, un_1⟩ := byx1
  have fz := un_1 8
  have f0 : y1.cell? ⟨w.heap.size + 1, 0, none⟩ = some (.int .i64 ((k : Int) + 1)) := x0_1
  have f1 : y1.cell? ⟨w.heap.size + 1, 1, none⟩ = some (.string ⟨#[]⟩) := x1_1
  have f2 : y1.cell? ⟨w.heap.size + 1, 2, none⟩ = some (.slice none 0 0) := x2_1
  have f3 : y1.cell? ⟨w.heap.size + 1, 3, none⟩ = some (.slice none 0 0) := x3_1
  have f4 : y1.cell? ⟨w.heap.size + 1, 4, none⟩ = some (.slice none 0 0) := x4_1
  have f5 : y1.cell? ⟨w.heap.size + 1, 5, none⟩ = some (.int .u64 0) := x5_1
  have f6 : y1.cell? ⟨w.heap.size + 1, 6, none⟩ = some (.int .u64 0) := x6_1
  have f7 : y1.cell? ⟨w.heap.size + 1, 7, none⟩ = some (.string ⟨#[]⟩) := x7_1
  have f8 : y1.cell? ⟨w.heap.size + 1, 8, none⟩ = some (.string ⟨#[]⟩) := x8_1
  have f9 : y1.cell? ⟨w.heap.size + 1, 9, none⟩ = some (.string ⟨#[]⟩) := x9_1
  clear x0_1 x1_1 x2_1 x3_1 x4_1 x5_1 x6_1 x7_1 x8_1 x9_1
  have byy := byz1
  obtain ⟨z0, z1, z2, z3, z4, z5, z6, z7, z8, z9, zun⟩ := byy
  have zu0 := zun 0
  have zu1 := zun 1
  have zu2 := zun 2
  have zu3 := zun 3
  have zu4 := zun 4
  have zu5 := zun 5
  have zu6 := zun 6
  have zu7 := zun 7
  have zu8 := zun 8
  have zu9 := zun 9
  clear  a1 b1 c1 d1 HTy1 byz1 BB1 PB1 st1 hs1 
  go_wp2_with fail
  clear z0 z1 z2 z3 z4 z5 z6 z7 z8 z9 zu0 zu1 zu2 zu3 zu4 zu5 zu6 zu7 zu8 zu9 zun
  obtain ⟨u1, hu1⟩ : ∃ u, u = (y1.setCell ⟨w.heap.size + 1, 8, none⟩ (.string ⟨p1.toArray⟩)) := ⟨_, rfl⟩
  rw [← hu1] at BX1 BZ1 RQ1 HT1 hzu1c 
  try rw [← hu1]
  clear hu1
  obtain ⟨z0, z1, z2, z3, z4, z5, z6, z7, z8, z9, zun⟩ := BZ1.out
  have zu0 := zun 0
  have zu1 := zun 1
  have zu2 := zun 2
  have zu3 := zun 3
  have zu4 := zun 4
  have zu5 := zun 5
  have zu6 := zun 6
  have zu7 := zun 7
  have zu8 := zun 8
  have zu9 := zun 9
  have HF := put10 u1 w.heap.size (.int .i64 ((k : Int) + 1)) (.string ⟨#[]⟩) (.slice none 0 0) (.slice none 0 0) (.slice none 0 0) (.int .u64 0) (.int .u64 0) (.string ⟨#[]⟩) (.string ⟨p1.toArray⟩) (.string ⟨#[]⟩)
  have HZ : u1.heap.size = (((((((((((u1.setCell ⟨w.heap.size, 0, none⟩ (.int .i64 ((k : Int) + 1))).setCell ⟨w.heap.size, 1, none⟩ (.string ⟨#[]⟩)).setCell ⟨w.heap.size, 2, none⟩ (.slice none 0 0)).setCell ⟨w.heap.size, 3, none⟩ (.slice none 0 0)).setCell ⟨w.heap.size, 4, none⟩ (.slice none 0 0)).setCell ⟨w.heap.size, 5, none⟩ (.int .u64 0)).setCell ⟨w.heap.size, 6, none⟩ (.int .u64 0)).setCell ⟨w.heap.size, 7, none⟩ (.string ⟨#[]⟩)).setCell ⟨w.heap.size, 8, none⟩ (.string ⟨p1.toArray⟩)).setCell ⟨w.heap.size, 9, none⟩ (.string ⟨#[]⟩))).heap.size := by simp
  refine bodyPost_ret (v := .agg #[.int .i64 ((k : Int) + 1), .string ⟨#[]⟩, .slice none 0 0, .slice none 0 0, .slice none 0 0, .int .u64 0, .int .u64 0, .string ⟨#[]⟩, .string ⟨p1.toArray⟩, .string ⟨#[]⟩]) (by simp [results, Tryd.results25, go_sem, z0, z1, z2, z3, z4, z5, z6, z7, z8, z9]) rfl ⟨⟨(⟨(k : Int) + 1, [], [], [], [], 0, 0, [], p1, []⟩ : Cmd), none, 0, none, 0, none, 0⟩, rfl, ?_, ST1.out.2, ?_, ?_⟩
  · refine ⟨⟨(Rd.nil _ _), (fun _ => rfl), (Rb.nil _ _), (fun _ => rfl), (Rd.nil _ _), (fun _ => rfl)⟩, ⟨by show _ ≤ (k : Int) + 1; omega, by show (k : Int) + 1 ≤ _; omega, (Nat.zero_le _), (Nat.zero_le _), (Nat.zero_le _), (by have := AL1.out; show p1.length ≤ _; omega), (Nat.zero_le _), (Nat.zero_le _), (Nat.zero_le _), (fun s hs => by cases hs), (fun s hs => by cases hs), (by show 0 < 18446744073709551616; omega), (by show 0 < 18446744073709551616; omega)⟩, (Nat.zero_le _), (Nat.zero_le _), (fun a ha => by cases ha), (fun a ha => by cases ha), (fun a ha => by cases ha)⟩
  · rw [← ST1.out.1]; exact Rq.low RQ1.out (HF.below (B := w.heap.size) (fun j e => by omega) (by omega)) hgl hhl
  · exact HT1.out.trans (HF.mono (fun j _ e => Or.inr (by omega)))
set_option maxRecDepth 100000 in
set_option maxHeartbeats 4000000 in
theorem cmd3 (B k : Nat) (hk : k < 15) (hm : maskN k = 3) (p : Bs) (w : World) (g h : Nat) (he : Env w) (hq : Rq B w g h (some p)) :
    Calls Tryd.prog 25 #[.pointer (some ⟨h, 0, none⟩), .int .i64 ((k : Int) + 1)] w (tkC B w g h (rdAll [107, 99] (bare ((k : Int) + 1)) p)) := by
  have hmk := he.mask k hk
  rw [hm] at hmk
  have hg0 := he.size
  have hhl := hq.lt
  have hgl : g < w.heap.size := by obtain ⟨l, hr, _⟩ := hq.rd; exact hr.lt
  obtain ⟨w0, hw0⟩ : ∃ w0, w0 = (w.alloc (comO zeroC)).alloc (comO (startC ((k : Int) + 1))) := ⟨_, rfl⟩
  have B0 : Below w.heap.size w w0 := by rw [hw0]; exact two_below _ _ _
  have BX0 : Hid (Box w0 (w.heap.size + 1) (startC ((k : Int) + 1))) := by
    have hb := Box.new (w.alloc (comO zeroC)) (startC ((k : Int) + 1))
    have e : (w.alloc (comO zeroC)).heap.size = w.heap.size + 1 := by simp
    rw [e] at hb
    show Box _ _ _
    rw [hw0]; exact hb
  have BZ0 : Hid (Box w0 w.heap.size zeroC) := by show Box _ _ _; rw [hw0]; exact (Box.new w zeroC).below (alloc_below _ _) (Nat.le_refl _)
  have RQ0 := Lib.hid (hq.below B0 (Nat.le_refl _))
  have HT0 : Hid (Only (Two g h) w w0) := Only.of_below B0 (Nat.le_refl _) _
  have hz0 : w.heap.size + 2 ≤ w0.heap.size := by rw [hw0]; simp
  have ST0 : Hid ((some p) = (rdAll [] (bare ((k : Int) + 1)) p).map (·.2) ∧ ∀ q, rdAll [] (bare ((k : Int) + 1)) p = some q → q.1 = (startC ((k : Int) + 1)).c) := ⟨rfl, fun q hq => by cases hq; rfl⟩
  have e0 : comO zeroC = .cells #[.int .i64 0, .string ⟨#[]⟩, .slice none 0 0, .slice none 0 0, .slice none 0 0, .int .u64 0, .int .u64 0, .string ⟨#[]⟩, .string ⟨#[]⟩, .string ⟨#[]⟩] 43 := rfl
  have e1 : comO (startC ((k : Int) + 1)) = .cells #[.int .i64 ((k : Int) + 1), .string ⟨#[]⟩, .slice none 0 0, .slice none 0 0, .slice none 0 0, .int .u64 0, .int .u64 0, .string ⟨#[]⟩, .string ⟨#[]⟩, .string ⟨#[]⟩] 43 := rfl
  rw [e0, e1] at hw0
  clear e0 e1
  have hkk : (k : Int) + 1 ≤ 15 := by omega
  clear B0 hq he hm
  go_enter Tryd.func25, Tryd.ntmps25
  go_wp2_with fail
  rw [← hw0]
  clear hw0
  refine (has_mask 3 0 3 1 true _ (by omega) rfl (by omega) rfl (by decide)).mono ?_
  rintro e wx ⟨rfl, rfl⟩
  go_wp2_with fail
  refine (text_r B _ g h _ RQ0.out).mono ?_
  rintro e y1 ⟨p1, rfl, a1, b1, c1, d1⟩
  have HTy1 : Only (Two g h) w y1 := HT0.out.trans (d1.mono (fun j _ e => Or.inl e))
  have byx1 := BX0.out.only d1 (by intro e; rcases e with e | e <;> omega)
  have byz1 := BZ0.out.only d1 (by intro e; rcases e with e | e <;> omega)
  have hzy1 : w.heap.size + 2 ≤ y1.heap.size := by have := d1.size; omega
  have BX1 := Lib.hid (Box_set0 byx1 p1)
  have BB1 : Below (w.heap.size + 1) y1 (y1.setCell ⟨w.heap.size + 1, 1, none⟩ (.string ⟨p1.toArray⟩)) := Below.setCell (Below.refl (w.heap.size + 1) y1) (show w.heap.size + 1 ≤ (⟨w.heap.size + 1, 1, none⟩ : Addr).block from Nat.le_refl _) (.string ⟨p1.toArray⟩)
  have PB1 : Only (fun j => j = w.heap.size + 1) y1 (y1.setCell ⟨w.heap.size + 1, 1, none⟩ (.string ⟨p1.toArray⟩)) := Only.put (F := fun j => j = w.heap.size + 1) (ad := ⟨w.heap.size + 1, 1, none⟩) (Only.refl _ _) rfl (.string ⟨p1.toArray⟩)
  have BZ1 := Lib.hid (byz1.only PB1 (by intro e; omega))
  have HT1 : Hid (Only (Two g h) w (y1.setCell ⟨w.heap.size + 1, 1, none⟩ (.string ⟨p1.toArray⟩))) := HTy1.setCell (Or.inr (by show w.heap.size ≤ w.heap.size + 1; omega)) _
  have st1 := more_part rdS ST0.out.1 ST0.out.2 (y := 107) (fun c v => { c with key := v }) (fun c l => by unfold rdPart; simp (decide := true) only [if_true, if_false]) b1
  rw [← rdAll_snoc] at st1
  obtain ⟨s1, hs1⟩ : ∃ s, s = ((some p).bind rdS).map (·.2) := ⟨_, rfl⟩
  rw [← hs1] at st1 c1
  have ST1 : Hid (s1 = (rdAll [107] (bare ((k : Int) + 1)) p).map (·.2) ∧ ∀ q, rdAll [107] (bare ((k : Int) + 1)) p = some q → q.1 = (⟨(k : Int) + 1, p1, [], [], [], 0, 0, [], [], []⟩ : Cmd)) := st1
  have RQ1 := Lib.hid (Rq.low c1 BB1 (by omega) (by omega))
  have AL1 := Lib.hid a1
  have hzu1c : w.heap.size + 2 ≤ (y1.setCell ⟨w.heap.size + 1, 1, none⟩ (.string ⟨p1.toArray⟩)).heap.size := by simp; omega
  obtain ⟨x0_1, x1_1, x2_1, x3_1, x4_1, x5_1, x6_1, x7_1, x8_1, x9_1, un_1⟩ := byx1
  have fz := un_1 1
  clear  a1 b1 c1 d1 HTy1 byz1 BB1 PB1 st1 hs1 
  go_wp2_with fail
  clear x0_1 x1_1 x2_1 x3_1 x4_1 x5_1 x6_1 x7_1 x8_1 x9_1 un_1 fz
  obtain ⟨u1, hu1⟩ : ∃ u, u = (y1.setCell ⟨w.heap.size + 1, 1, none⟩ (.string ⟨p1.toArray⟩)) := ⟨_, rfl⟩
  rw [← hu1] at BX1 BZ1 RQ1 HT1 hzu1c 
  try rw [← hu1]
  clear hu1
  refine (has_mask 3 1 3 2 true _ (by omega) rfl (by omega) rfl (by decide)).mono ?_
  rintro e wx ⟨rfl, rfl⟩
  go_wp2_with fail
  refine (text_r B _ g h _ RQ1.out).mono ?_
  rintro e y2 ⟨p2, rfl, a2, b2, c2, d2⟩
  have HTy2 : Only (Two g h) w y2 := HT1.out.trans (d2.mono (fun j _ e => Or.inl e))
  have byx2 := BX1.out.only d2 (by intro e; rcases e with e | e <;> omega)
  have byz2 := BZ1.out.only d2 (by intro e; rcases e with e | e <;> omega)
  have hzy2 : w.heap.size + 2 ≤ y2.heap.size := by have := d2.size; omega
  have BX2 := Lib.hid (Box_set1 byx2 p2)
  have BB2 : Below (w.heap.size + 1) y2 (y2.setCell ⟨w.heap.size + 1, 9, none⟩ (.string ⟨p2.toArray⟩)) := Below.setCell (Below.refl (w.heap.size + 1) y2) (show w.heap.size + 1 ≤ (⟨w.heap.size + 1, 9, none⟩ : Addr).block from Nat.le_refl _) (.string ⟨p2.toArray⟩)
  have PB2 : Only (fun j => j = w.heap.size + 1) y2 (y2.setCell ⟨w.heap.size + 1, 9, none⟩ (.string ⟨p2.toArray⟩)) := Only.put (F := fun j => j = w.heap.size + 1) (ad := ⟨w.heap.size + 1, 9, none⟩) (Only.refl _ _) rfl (.string ⟨p2.toArray⟩)
  have BZ2 := Lib.hid (byz2.only PB2 (by intro e; omega))
  have HT2 : Hid (Only (Two g h) w (y2.setCell ⟨w.heap.size + 1, 9, none⟩ (.string ⟨p2.toArray⟩))) := HTy2.setCell (Or.inr (by show w.heap.size ≤ w.heap.size + 1; omega)) _
  have st2 := more_part rdS ST1.out.1 ST1.out.2 (y := 99) (fun c v => { c with child := v }) (fun c l => by unfold rdPart; simp (decide := true) only [if_false]) b2
  rw [← rdAll_snoc] at st2
  obtain ⟨s2, hs2⟩ : ∃ s, s = (s1.bind rdS).map (·.2) := ⟨_, rfl⟩
  rw [← hs2] at st2 c2
  have ST2 : Hid (s2 = (rdAll [107, 99] (bare ((k : Int) + 1)) p).map (·.2) ∧ ∀ q, rdAll [107, 99] (bare ((k : Int) + 1)) p = some q → q.1 = (⟨(k : Int) + 1, p1, [], [], [], 0, 0, [], [], p2⟩ : Cmd)) := st2
  have RQ2 := Lib.hid (Rq.low c2 BB2 (by omega) (by omega))
  have AL2 := Lib.hid a2
  have hzu2c : w.heap.size + 2 ≤ (y2.setCell ⟨w.heap.size + 1, 9, none⟩ (.string ⟨p2.toArray⟩)).heap.size := by simp; omega
  obtain ⟨x0_2, x1_2, x2_2, x3_2, x4_2, x5_2, x6_2, x7_2, x8_2, x9_2, un_2⟩ := byx2
  have fz := un_2 9
  clear  a2 b2 c2 d2 HTy2 byz2 BB2 PB2 st2 hs2 
  go_wp2_with fail
  clear x0_2 x1_2 x2_2 x3_2 x4_2 x5_2 x6_2 x7_2 x8_2 x9_2 un_2 fz
  obtain ⟨u2, hu2⟩ : ∃ u, u = (y2.setCell ⟨w.heap.size + 1, 9, none⟩ (.string ⟨p2.toArray⟩)) := ⟨_, rfl⟩
  rw [← hu2] at BX2 BZ2 RQ2 HT2 hzu2c 
  try rw [← hu2]
  clear hu2
  refine (has_mask 3 2 3 4 false _ (by omega) rfl (by omega) rfl (by decide)).mono ?_
  rintro e wx ⟨rfl, rfl⟩
  go_wp2_with fail
  refine (has_mask 3 3 3 8 false _ (by omega) rfl (by omega) rfl (by decide)).mono ?_
  rintro e wx ⟨rfl, rfl⟩
  go_wp2_with fail
  refine (has_mask 3 4 3 16 false _ (by omega) rfl (by omega) rfl (by decide)).mono ?_
  rintro e wx ⟨rfl, rfl⟩
  go_wp2_with fail
  refine (has_mask 3 5 3 32 false _ (by omega) rfl (by omega) rfl (by decide)).mono ?_
  rintro e wx ⟨rfl, rfl⟩
  go_wp2_with fail
  refine (has_mask 3 6 3 64 false _ (by omega) rfl (by omega) rfl (by decide)).mono ?_
  rintro e wx ⟨rfl, rfl⟩
  go_wp2_with fail
  refine (has_mask 3 7 3 128 false _ (by omega) rfl (by omega) rfl (by decide)).mono ?_
  rintro e wx ⟨rfl, rfl⟩
  go_wp2_with fail
  refine (has_mask 3 8 3 256 false _ (by omega) rfl (by omega) rfl (by decide)).mono ?_
  rintro e wx ⟨rfl, rfl⟩
  obtain ⟨F0, F1, F2, F3, F4, F5, F6, F7, F8, F9, fun_⟩ := BX2.out
  have f0 : u2.cell? ⟨w.heap.size + 1, 0, none⟩ = some (.int .i64 ((k : Int) + 1)) := F0
  have f1 : u2.cell? ⟨w.heap.size + 1, 1, none⟩ = some (.string ⟨p1.toArray⟩) := F1
  have f2 : u2.cell? ⟨w.heap.size + 1, 2, none⟩ = some (.slice none 0 0) := F2
  have f3 : u2.cell? ⟨w.heap.size + 1, 3, none⟩ = some (.slice none 0 0) := F3
  have f4 : u2.cell? ⟨w.heap.size + 1, 4, none⟩ = some (.slice none 0 0) := F4
  have f5 : u2.cell? ⟨w.heap.size + 1, 5, none⟩ = some (.int .u64 0) := F5
  have f6 : u2.cell? ⟨w.heap.size + 1, 6, none⟩ = some (.int .u64 0) := F6
  have f7 : u2.cell? ⟨w.heap.size + 1, 7, none⟩ = some (.string ⟨#[]⟩) := F7
  have f8 : u2.cell? ⟨w.heap.size + 1, 8, none⟩ = some (.string ⟨#[]⟩) := F8
  have f9 : u2.cell? ⟨w.heap.size + 1, 9, none⟩ = some (.string ⟨p2.toArray⟩) := F9
  clear F0 F1 F2 F3 F4 F5 F6 F7 F8 F9
  obtain ⟨z0, z1, z2, z3, z4, z5, z6, z7, z8, z9, zun⟩ := BZ2.out
  have zu0 := zun 0
  have zu1 := zun 1
  have zu2 := zun 2
  have zu3 := zun 3
  have zu4 := zun 4
  have zu5 := zun 5
  have zu6 := zun 6
  have zu7 := zun 7
  have zu8 := zun 8
  have zu9 := zun 9
  go_wp2_with fail
  have HF := put10 u2 w.heap.size (.int .i64 ((k : Int) + 1)) (.string ⟨p1.toArray⟩) (.slice none 0 0) (.slice none 0 0) (.slice none 0 0) (.int .u64 0) (.int .u64 0) (.string ⟨#[]⟩) (.string ⟨#[]⟩) (.string ⟨p2.toArray⟩)
  have HZ : u2.heap.size = (((((((((((u2.setCell ⟨w.heap.size, 0, none⟩ (.int .i64 ((k : Int) + 1))).setCell ⟨w.heap.size, 1, none⟩ (.string ⟨p1.toArray⟩)).setCell ⟨w.heap.size, 2, none⟩ (.slice none 0 0)).setCell ⟨w.heap.size, 3, none⟩ (.slice none 0 0)).setCell ⟨w.heap.size, 4, none⟩ (.slice none 0 0)).setCell ⟨w.heap.size, 5, none⟩ (.int .u64 0)).setCell ⟨w.heap.size, 6, none⟩ (.int .u64 0)).setCell ⟨w.heap.size, 7, none⟩ (.string ⟨#[]⟩)).setCell ⟨w.heap.size, 8, none⟩ (.string ⟨#[]⟩)).setCell ⟨w.heap.size, 9, none⟩ (.string ⟨p2.toArray⟩))).heap.size := by simp
  refine bodyPost_ret (v := .agg #[.int .i64 ((k : Int) + 1), .string ⟨p1.toArray⟩, .slice none 0 0, .slice none 0 0, .slice none 0 0, .int .u64 0, .int .u64 0, .string ⟨#[]⟩, .string ⟨#[]⟩, .string ⟨p2.toArray⟩]) (by simp [results, Tryd.results25, go_sem, z0, z1, z2, z3, z4, z5, z6, z7, z8, z9]) rfl ⟨⟨(⟨(k : Int) + 1, p1, [], [], [], 0, 0, [], [], p2⟩ : Cmd), none, 0, none, 0, none, 0⟩, rfl, ?_, ST2.out.2, ?_, ?_⟩
  · refine ⟨⟨(Rd.nil _ _), (fun _ => rfl), (Rb.nil _ _), (fun _ => rfl), (Rd.nil _ _), (fun _ => rfl)⟩, ⟨by show _ ≤ (k : Int) + 1; omega, by show (k : Int) + 1 ≤ _; omega, (by have := AL1.out; show p1.length ≤ _; omega), (by have := AL2.out; show p2.length ≤ _; omega), (Nat.zero_le _), (Nat.zero_le _), (Nat.zero_le _), (Nat.zero_le _), (Nat.zero_le _), (fun s hs => by cases hs), (fun s hs => by cases hs), (by show 0 < 18446744073709551616; omega), (by show 0 < 18446744073709551616; omega)⟩, (Nat.zero_le _), (Nat.zero_le _), (fun a ha => by cases ha), (fun a ha => by cases ha), (fun a ha => by cases ha)⟩
  · rw [← ST2.out.1]; exact Rq.low RQ2.out (HF.below (B := w.heap.size) (fun j e => by omega) (by omega)) hgl hhl
  · exact HT2.out.trans (HF.mono (fun j _ e => Or.inr (by omega)))
set_option maxRecDepth 100000 in
set_option maxHeartbeats 4000000 in
theorem cmd0 (B k : Nat) (hk : k < 15) (hm : maskN k = 0) (p : Bs) (w : World) (g h : Nat) (he : Env w) (hq : Rq B w g h (some p)) :
    Calls Tryd.prog 25 #[.pointer (some ⟨h, 0, none⟩), .int .i64 ((k : Int) + 1)] w (tkC B w g h (rdAll [] (bare ((k : Int) + 1)) p)) := by
  have hmk := he.mask k hk
  rw [hm] at hmk
  have hg0 := he.size
  have hhl := hq.lt
  have hgl : g < w.heap.size := by obtain ⟨l, hr, _⟩ := hq.rd; exact hr.lt
  obtain ⟨w0, hw0⟩ : ∃ w0, w0 = (w.alloc (comO zeroC)).alloc (comO (startC ((k : Int) + 1))) := ⟨_, rfl⟩
  have B0 : Below w.heap.size w w0 := by rw [hw0]; exact two_below _ _ _
  have BX0 : Hid (Box w0 (w.heap.size + 1) (startC ((k : Int) + 1))) := by
    have hb := Box.new (w.alloc (comO zeroC)) (startC ((k : Int) + 1))
    have e : (w.alloc (comO zeroC)).heap.size = w.heap.size + 1 := by simp
    rw [e] at hb
    show Box _ _ _
    rw [hw0]; exact hb
  have BZ0 : Hid (Box w0 w.heap.size zeroC) := by show Box _ _ _; rw [hw0]; exact (Box.new w zeroC).below (alloc_below _ _) (Nat.le_refl _)
  have RQ0 := Lib.hid (hq.below B0 (Nat.le_refl _))
  have HT0 : Hid (Only (Two g h) w w0) := Only.of_below B0 (Nat.le_refl _) _
  have hz0 : w.heap.size + 2 ≤ w0.heap.size := by rw [hw0]; simp
  have ST0 : Hid ((some p) = (rdAll [] (bare ((k : Int) + 1)) p).map (·.2) ∧ ∀ q, rdAll [] (bare ((k : Int) + 1)) p = some q → q.1 = (startC ((k : Int) + 1)).c) := ⟨rfl, fun q hq => by cases hq; rfl⟩
  have e0 : comO zeroC = .cells #[.int .i64 0, .string ⟨#[]⟩, .slice none 0 0, .slice none 0 0, .slice none 0 0, .int .u64 0, .int .u64 0, .string ⟨#[]⟩, .string ⟨#[]⟩, .string ⟨#[]⟩] 43 := rfl
  have e1 : comO (startC ((k : Int) + 1)) = .cells #[.int .i64 ((k : Int) + 1), .string ⟨#[]⟩, .slice none 0 0, .slice none 0 0, .slice none 0 0, .int .u64 0, .int .u64 0, .string ⟨#[]⟩, .string ⟨#[]⟩, .string ⟨#[]⟩] 43 := rfl
  rw [e0, e1] at hw0
  clear e0 e1
  have hkk : (k : Int) + 1 ≤ 15 := by omega
  clear B0 hq he hm
  go_enter Tryd.func25, Tryd.ntmps25
  go_wp2_with fail
  rw [← hw0]
  clear hw0
  refine (has_mask 0 0 0 1 false _ (by omega) rfl (by omega) rfl (by decide)).mono ?_
  rintro e wx ⟨rfl, rfl⟩
  go_wp2_with fail
  refine (has_mask 0 1 0 2 false _ (by omega) rfl (by omega) rfl (by decide)).mono ?_
  rintro e wx ⟨rfl, rfl⟩
  go_wp2_with fail
  refine (has_mask 0 2 0 4 false _ (by omega) rfl (by omega) rfl (by decide)).mono ?_
  rintro e wx ⟨rfl, rfl⟩
  go_wp2_with fail
  refine (has_mask 0 3 0 8 false _ (by omega) rfl (by omega) rfl (by decide)).mono ?_
  rintro e wx ⟨rfl, rfl⟩
  go_wp2_with fail
  refine (has_mask 0 4 0 16 false _ (by omega) rfl (by omega) rfl (by decide)).mono ?_
  rintro e wx ⟨rfl, rfl⟩
  go_wp2_with fail
  refine (has_mask 0 5 0 32 false _ (by omega) rfl (by omega) rfl (by decide)).mono ?_
  rintro e wx ⟨rfl, rfl⟩
  go_wp2_with fail
  refine (has_mask 0 6 0 64 false _ (by omega) rfl (by omega) rfl (by decide)).mono ?_
  rintro e wx ⟨rfl, rfl⟩
  go_wp2_with fail
  refine (has_mask 0 7 0 128 false _ (by omega) rfl (by omega) rfl (by decide)).mono ?_
  rintro e wx ⟨rfl, rfl⟩
  go_wp2_with fail
  refine (has_mask 0 8 0 256 false _ (by omega) rfl (by omega) rfl (by decide)).mono ?_
  rintro e wx ⟨rfl, rfl⟩
  obtain ⟨F0, F1, F2, F3, F4, F5, F6, F7, F8, F9, fun_⟩ := BX0.out
  have f0 : w0.cell? ⟨w.heap.size + 1, 0, none⟩ = some (.int .i64 ((k : Int) + 1)) := F0
  have f1 : w0.cell? ⟨w.heap.size + 1, 1, none⟩ = some (.string ⟨#[]⟩) := F1
  have f2 : w0.cell? ⟨w.heap.size + 1, 2, none⟩ = some (.slice none 0 0) := F2
  have f3 : w0.cell? ⟨w.heap.size + 1, 3, none⟩ = some (.slice none 0 0) := F3
  have f4 : w0.cell? ⟨w.heap.size + 1, 4, none⟩ = some (.slice none 0 0) := F4
  have f5 : w0.cell? ⟨w.heap.size + 1, 5, none⟩ = some (.int .u64 0) := F5
  have f6 : w0.cell? ⟨w.heap.size + 1, 6, none⟩ = some (.int .u64 0) := F6
  have f7 : w0.cell? ⟨w.heap.size + 1, 7, none⟩ = some (.string ⟨#[]⟩) := F7
  have f8 : w0.cell? ⟨w.heap.size + 1, 8, none⟩ = some (.string ⟨#[]⟩) := F8
  have f9 : w0.cell? ⟨w.heap.size + 1, 9, none⟩ = some (.string ⟨#[]⟩) := F9
  clear F0 F1 F2 F3 F4 F5 F6 F7 F8 F9
  obtain ⟨z0, z1, z2, z3, z4, z5, z6, z7, z8, z9, zun⟩ := BZ0.out
  have zu0 := zun 0
  have zu1 := zun 1
  have zu2 := zun 2
  have zu3 := zun 3
  have zu4 := zun 4
  have zu5 := zun 5
  have zu6 := zun 6
  have zu7 := zun 7
  have zu8 := zun 8
  have zu9 := zun 9
  go_wp2_with fail
  have HF := put10 w0 w.heap.size (.int .i64 ((k : Int) + 1)) (.string ⟨#[]⟩) (.slice none 0 0) (.slice none 0 0) (.slice none 0 0) (.int .u64 0) (.int .u64 0) (.string ⟨#[]⟩) (.string ⟨#[]⟩) (.string ⟨#[]⟩)
  have HZ : w0.heap.size = (((((((((((w0.setCell ⟨w.heap.size, 0, none⟩ (.int .i64 ((k : Int) + 1))).setCell ⟨w.heap.size, 1, none⟩ (.string ⟨#[]⟩)).setCell ⟨w.heap.size, 2, none⟩ (.slice none 0 0)).setCell ⟨w.heap.size, 3, none⟩ (.slice none 0 0)).setCell ⟨w.heap.size, 4, none⟩ (.slice none 0 0)).setCell ⟨w.heap.size, 5, none⟩ (.int .u64 0)).setCell ⟨w.heap.size, 6, none⟩ (.int .u64 0)).setCell ⟨w.heap.size, 7, none⟩ (.string ⟨#[]⟩)).setCell ⟨w.heap.size, 8, none⟩ (.string ⟨#[]⟩)).setCell ⟨w.heap.size, 9, none⟩ (.string ⟨#[]⟩))).heap.size := by simp
  refine bodyPost_ret (v := .agg #[.int .i64 ((k : Int) + 1), .string ⟨#[]⟩, .slice none 0 0, .slice none 0 0, .slice none 0 0, .int .u64 0, .int .u64 0, .string ⟨#[]⟩, .string ⟨#[]⟩, .string ⟨#[]⟩]) (by simp [results, Tryd.results25, go_sem, z0, z1, z2, z3, z4, z5, z6, z7, z8, z9]) rfl ⟨⟨(⟨(k : Int) + 1, [], [], [], [], 0, 0, [], [], []⟩ : Cmd), none, 0, none, 0, none, 0⟩, rfl, ?_, ST0.out.2, ?_, ?_⟩
  · refine ⟨⟨(Rd.nil _ _), (fun _ => rfl), (Rb.nil _ _), (fun _ => rfl), (Rd.nil _ _), (fun _ => rfl)⟩, ⟨by show _ ≤ (k : Int) + 1; omega, by show (k : Int) + 1 ≤ _; omega, (Nat.zero_le _), (Nat.zero_le _), (Nat.zero_le _), (Nat.zero_le _), (Nat.zero_le _), (Nat.zero_le _), (Nat.zero_le _), (fun s hs => by cases hs), (fun s hs => by cases hs), (by show 0 < 18446744073709551616; omega), (by show 0 < 18446744073709551616; omega)⟩, (Nat.zero_le _), (Nat.zero_le _), (fun a ha => by cases ha), (fun a ha => by cases ha), (fun a ha => by cases ha)⟩
  · rw [← ST0.out.1]; exact Rq.low RQ0.out (HF.below (B := w.heap.size) (fun j e => by omega) (by omega)) hgl hhl
  · exact HT0.out.trans (HF.mono (fun j _ e => Or.inr (by omega)))
end Go.Proofs.YthlfahblnpijaaaDoor.Qc
namespace Go.Proofs.YthlfahblnpijaaaDoor.Qc
open Go.RowKit Vm Ap Vw Va Vc Vp Vn Vs Gc Mi Mb Qm Qs Qe Qd Qy

theorem command_any (B : Nat) (op : Int) (h : inOp op = true) (p : Bs) (w : World) (g i : Nat) (he : Env w) (hq : Rq B w g i (some p)) :
    Calls Tryd.prog 25 #[.pointer (some ⟨i, 0, none⟩), .int .i64 op] w (tkC B w g i (rdAll (needs op) (bare op) p)) := by
  obtain ⟨k, hk, e, ek⟩ := in_cases h
  subst e
  have hn : needs ((k : Int) + 1) = needsN k := by unfold needs; rw [if_pos h, ek]
  rw [hn]
  match k, hk with
  | 0, _ => exact cmd57 B 0 (by omega) rfl p w g i he hq
  | 1, _ => exact cmd57 B 1 (by omega) rfl p w g i he hq
  | 2, _ => exact cmd121 B 2 (by omega) rfl p w g i he hq
  | 3, _ => exact cmd1 B 3 (by omega) rfl p w g i he hq
  | 4, _ => exact cmd4 B 4 (by omega) rfl p w g i he hq
  | 5, _ => exact cmd33 B 5 (by omega) rfl p w g i he hq
  | 6, _ => exact cmd1 B 6 (by omega) rfl p w g i he hq
  | 7, _ => exact cmd128 B 7 (by omega) rfl p w g i he hq
  | 8, _ => exact cmd128 B 8 (by omega) rfl p w g i he hq
  | 9, _ => exact cmd256 B 9 (by omega) rfl p w g i he hq
  | 10, _ => exact cmd3 B 10 (by omega) rfl p w g i he hq
  | 11, _ => exact cmd3 B 11 (by omega) rfl p w g i he hq
  | 12, _ => exact cmd1 B 12 (by omega) rfl p w g i he hq
  | 13, _ => exact cmd0 B 13 (by omega) rfl p w g i he hq
  | 14, _ => exact cmd0 B 14 (by omega) rfl p w g i he hq
  | k + 15, h => omega
end Go.Proofs.YthlfahblnpijaaaDoor.Qc
