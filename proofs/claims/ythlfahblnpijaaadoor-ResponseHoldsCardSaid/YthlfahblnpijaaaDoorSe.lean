/- Proves words for items and responses in memory, and what the specification's item and Needs return. Conditions: few bytes. -/
import Derived.Test.YthlfahblnpijaaaDoorSm
import Derived.Test.YthlfahblnpijaaaDoorMb
import Derived.Test.YthlfahblnpijaaaDoorFwa
import Derived.Deep.Cut
namespace Go.Proofs.YthlfahblnpijaaaDoor.Se
open Go.RowKit Vm Ap Vw Va Gc Mi Mb Qm Sm

/-- An item as it stands in memory. -/
structure Im where
  i : Itm
  A : Option Addr
  k : Nat
def imC (x : Im) : List Value := [.int .i64 x.i.mark, .slice x.A x.i.value.length x.k, .int .u64 (x.i.version : Int), .int .u64 (x.i.dead : Int)]
def imV (x : Im) : Value := .agg #[.int .i64 x.i.mark, .slice x.A x.i.value.length x.k, .int .u64 (x.i.version : Int), .int .u64 (x.i.dead : Int)]
def imO (x : Im) : Obj := .cells #[.int .i64 x.i.mark, .slice x.A x.i.value.length x.k, .int .u64 (x.i.version : Int), .int .u64 (x.i.dead : Int)] 49
def zeroM : Im := { i := zeroI, A := none, k := 0 }
def imL (l : List Im) : List Value := l.flatMap imC
theorem imL_snoc (l : List Im) (x : Im) : imL (l ++ [x]) = imL l ++ imC x := by unfold imL; rw [List.flatMap_append]; simp
theorem imL_len (l : List Im) : (imL l).length = l.length * 4 := by
  induction l with
  | nil => rfl
  | cons x r ih => unfold imL at ih ⊢; rw [List.flatMap_cons, List.length_append, ih, List.length_cons]; simp [imC]; omega
theorem imL_get : ∀ (l : List Im) (j : Nat) (h : j < l.length), (imL l)[j * 4]? = some (.int .i64 l[j].i.mark) ∧ (imL l)[j * 4 + 1]? = some (.slice l[j].A l[j].i.value.length l[j].k) ∧ (imL l)[j * 4 + 2]? = some (.int .u64 (l[j].i.version : Int)) ∧ (imL l)[j * 4 + 3]? = some (.int .u64 (l[j].i.dead : Int))
  | [], j, h => by simp at h
  | x :: r, 0, _ => by unfold imL; rw [List.flatMap_cons]; simp [imC]
  | x :: r, j + 1, h => by
    have := imL_get r j (by simpa using h)
    have e : imL (x :: r) = imC x ++ imL r := by unfold imL; rw [List.flatMap_cons]
    have hl : (imC x).length = 4 := rfl
    rw [e, List.getElem?_append_right (by omega), List.getElem?_append_right (by omega), List.getElem?_append_right (by omega), List.getElem?_append_right (by omega), hl, show (j + 1) * 4 - 4 = j * 4 from by omega, show (j + 1) * 4 + 1 - 4 = j * 4 + 1 from by omega, show (j + 1) * 4 + 2 - 4 = j * 4 + 2 from by omega, show (j + 1) * 4 + 3 - 4 = j * 4 + 3 from by omega]
    exact this
/-- The slice at A reads as the items. -/
def RI (w : World) (A : Option Addr) (l : List Im) : Prop :=
  0 < l.length → ∃ b o, A = some ⟨b, o, none⟩ ∧ b < w.heap.size ∧ ∀ j (h : j < l.length), w.cell? ⟨b, o + j * 4, none⟩ = some (.int .i64 l[j].i.mark) ∧ w.cell? ⟨b, o + j * 4 + 1, none⟩ = some (.slice l[j].A l[j].i.value.length l[j].k) ∧ w.cell? ⟨b, o + j * 4 + 2, none⟩ = some (.int .u64 (l[j].i.version : Int)) ∧ w.cell? ⟨b, o + j * 4 + 3, none⟩ = some (.int .u64 (l[j].i.dead : Int))
theorem RI.nil (w : World) (A : Option Addr) : RI w A [] := fun h => by simp at h
theorem RI.only {w w' : World} {A : Option Addr} {l : List Im} (h : RI w A l) {F : Nat → Prop} (ho : Only F w w') (hn : ∀ a, A = some a → ¬ F a.block) : RI w' A l := fun h0 => by
  obtain ⟨b, o, e, hlt, hc⟩ := h h0
  have hnb := hn ⟨b, o, none⟩ e
  refine ⟨b, o, e, Nat.lt_of_lt_of_le hlt ho.size, fun j hj => ?_⟩
  have hk : ∀ q, w'.cell? ⟨b, q, none⟩ = w.cell? ⟨b, q, none⟩ := fun q => ho.cell (a := ⟨b, q, none⟩) hlt hnb
  rw [hk, hk, hk, hk]; exact hc j hj
theorem RI.below {w w' : World} {A : Option Addr} {l : List Im} (h : RI w A l) {B : Nat} (hb : Below B w w') (hB : w.heap.size ≤ B) : RI w' A l := h.only (Only.of_below hb hB (fun _ => False)) (fun _ _ e => e)
theorem RI.at_ {w : World} {A : Option Addr} {l : List Im} (h : RI w A l) {j : Nat} (hj : j < l.length) : ∃ b o, A = some ⟨b, o, none⟩ ∧ b < w.heap.size ∧ w.cell? ⟨b, o + j * 4, none⟩ = some (.int .i64 l[j].i.mark) ∧ w.cell? ⟨b, o + j * 4 + 1, none⟩ = some (.slice l[j].A l[j].i.value.length l[j].k) ∧ w.cell? ⟨b, o + j * 4 + 2, none⟩ = some (.int .u64 (l[j].i.version : Int)) ∧ w.cell? ⟨b, o + j * 4 + 3, none⟩ = some (.int .u64 (l[j].i.dead : Int)) := by
  obtain ⟨b, o, e, hlt, hc⟩ := h (by omega)
  exact ⟨b, o, e, hlt, hc j hj⟩
/-- The slice at A reads as the numbers. -/
def RN (w : World) (A : Option Addr) (l : List Nat) : Prop :=
  0 < l.length → ∃ b o, A = some ⟨b, o, none⟩ ∧ b < w.heap.size ∧ ∀ j (h : j < l.length), w.cell? ⟨b, o + j, none⟩ = some (.int .u64 (l[j] : Int))
theorem RN.nil (w : World) (A : Option Addr) : RN w A [] := fun h => by simp at h
theorem RN.only {w w' : World} {A : Option Addr} {l : List Nat} (h : RN w A l) {F : Nat → Prop} (ho : Only F w w') (hn : ∀ a, A = some a → ¬ F a.block) : RN w' A l := fun h0 => by
  obtain ⟨b, o, e, hlt, hc⟩ := h h0
  exact ⟨b, o, e, Nat.lt_of_lt_of_le hlt ho.size, fun j hj => by rw [ho.cell (a := ⟨b, o + j, none⟩) hlt (hn ⟨b, o, none⟩ e)]; exact hc j hj⟩
theorem RN.below {w w' : World} {A : Option Addr} {l : List Nat} (h : RN w A l) {B : Nat} (hb : Below B w w') (hB : w.heap.size ≤ B) : RN w' A l := h.only (Only.of_below hb hB (fun _ => False)) (fun _ _ e => e)
theorem RN.at_ {w : World} {A : Option Addr} {l : List Nat} (h : RN w A l) {j : Nat} (hj : j < l.length) : ∃ b o, A = some ⟨b, o, none⟩ ∧ b < w.heap.size ∧ w.cell? ⟨b, o + j, none⟩ = some (.int .u64 (l[j] : Int)) := by
  obtain ⟨b, o, e, hlt, hc⟩ := h (by omega)
  exact ⟨b, o, e, hlt, hc j hj⟩

/-- A response as it stands in memory. -/
structure Res where
  op : Int
  err : Int
  items : List Im
  IA : Option Addr
  ik : Nat
  version : Nat
  count : Int
  numbers : List Nat
  NA : Option Addr
  nk : Nat
def Res.r (x : Res) : Rsp := { op := x.op, err := x.err, items := x.items.map (·.i), version := x.version, count := x.count, numbers := x.numbers }
def resV (x : Res) : Value := .agg #[.int .i64 x.op, .int .i64 x.err, .slice x.IA x.items.length x.ik, .int .u64 (x.version : Int), .int .i64 x.count, .slice x.NA x.numbers.length x.nk]
def resO (x : Res) : Obj := .cells #[.int .i64 x.op, .int .i64 x.err, .slice x.IA x.items.length x.ik, .int .u64 (x.version : Int), .int .i64 x.count, .slice x.NA x.numbers.length x.nk] 28
def startS (op err : Int) : Res := { op := op, err := err, items := [], IA := none, ik := 0, version := 0, count := 0, numbers := [], NA := none, nk := 0 }
/-- Its lists and its values read as they should. -/
structure RRc (w : World) (x : Res) : Prop where
  ri : RI w x.IA x.items
  ni : x.IA = none → x.ik = 0
  rv : ∀ y ∈ x.items, Rb w y.A y.i.value
  nv : ∀ y ∈ x.items, y.A = none → y.k = 0
  rn : RN w x.NA x.numbers
  nn : x.NA = none → x.nk = 0
theorem RRc.only {w w' : World} {x : Res} (h : RRc w x) {F : Nat → Prop} (ho : Only F w w') (h1 : ∀ a, x.IA = some a → ¬ F a.block) (h2 : ∀ y ∈ x.items, ∀ a, y.A = some a → ¬ F a.block) (h3 : ∀ a, x.NA = some a → ¬ F a.block) : RRc w' x :=
  ⟨h.ri.only ho h1, h.ni, fun y hy => rb_only (h.rv y hy) ho (h2 y hy), h.nv, h.rn.only ho h3, h.nn⟩
theorem RRc.below {w w' : World} {x : Res} (h : RRc w x) {B : Nat} (hb : Below B w w') (hB : w.heap.size ≤ B) : RRc w' x :=
  h.only (Only.of_below hb hB (fun _ => False)) (fun _ _ e => e) (fun _ _ _ _ e => e) (fun _ _ e => e)
theorem RRc.start (w : World) (op err : Int) : RRc w (startS op err) := ⟨RI.nil _ _, fun _ => rfl, (fun y hy => by cases hy), (fun y hy => by cases hy), RN.nil _ _, fun _ => rfl⟩
/-- What a response's parts are at most. -/
structure BndS (x : Res) : Prop where
  op1 : -9223372036854775808 ≤ x.op
  op2 : x.op ≤ 9223372036854775807
  err1 : -9223372036854775808 ≤ x.err
  err2 : x.err ≤ 9223372036854775807
  count1 : -9223372036854775808 ≤ x.count
  count2 : x.count ≤ 9223372036854775807
  version : x.version < 18446744073709551616
  items : x.items.length ≤ 1000
  numbers : x.numbers.length ≤ 1000
  each : ∀ y ∈ x.items, (-9223372036854775808 ≤ y.i.mark ∧ y.i.mark ≤ 9223372036854775807) ∧ y.i.value.length ≤ 1000000 ∧ y.i.version < 18446744073709551616 ∧ y.i.dead < 18446744073709551616
  nums : ∀ n ∈ x.numbers, n < 18446744073709551616
/-- A block that holds a response. -/
structure BoxS (w : World) (g : Nat) (x : Res) : Prop where
  c0 : w.cell? ⟨g, 0, none⟩ = some (.int .i64 x.op)
  c1 : w.cell? ⟨g, 1, none⟩ = some (.int .i64 x.err)
  c2 : w.cell? ⟨g, 2, none⟩ = some (.slice x.IA x.items.length x.ik)
  c3 : w.cell? ⟨g, 3, none⟩ = some (.int .u64 (x.version : Int))
  c4 : w.cell? ⟨g, 4, none⟩ = some (.int .i64 x.count)
  c5 : w.cell? ⟨g, 5, none⟩ = some (.slice x.NA x.numbers.length x.nk)
  un : ∀ j, w.frozen? ⟨g, j, none⟩ = false
theorem BoxS.new (w : World) (x : Res) : BoxS (w.alloc (resO x)) w.heap.size x := by
  unfold resO
  constructor
  case un => exact fun j => frozen_of_row _ _ j _ _ (heap_alloc_new _ _)
  all_goals (rw [cell_of_row _ _ _ _ _ (0, 0) (heap_alloc_new _ _)]; rfl)
theorem BoxS.lt {w : World} {g : Nat} {x : Res} (h : BoxS w g x) : g < w.heap.size := World.block_lt_of_cell? _ _ h.c0
theorem BoxS.only {w w' : World} {g : Nat} {x : Res} (h : BoxS w g x) {F : Nat → Prop} (ho : Only F w w') (hn : ¬ F g) : BoxS w' g x := by
  have hl := h.lt
  have hc : ∀ j, w'.cell? ⟨g, j, none⟩ = w.cell? ⟨g, j, none⟩ := fun j => ho.cell (a := ⟨g, j, none⟩) hl hn
  exact ⟨(hc 0).trans h.c0, (hc 1).trans h.c1, (hc 2).trans h.c2, (hc 3).trans h.c3, (hc 4).trans h.c4, (hc 5).trans h.c5, fun j => (ho.frozen (a := ⟨g, j, none⟩) hl hn).trans (h.un j)⟩
theorem BoxS.below {w w' : World} {g : Nat} {x : Res} (h : BoxS w g x) {B : Nat} (hb : Below B w w') (hB : w.heap.size ≤ B) : BoxS w' g x := h.only (Only.of_below hb hB (fun _ => False)) (fun hf => hf)
/-- A block that holds an item. -/
structure BoxI (w : World) (g : Nat) (x : Im) : Prop where
  c0 : w.cell? ⟨g, 0, none⟩ = some (.int .i64 x.i.mark)
  c1 : w.cell? ⟨g, 1, none⟩ = some (.slice x.A x.i.value.length x.k)
  c2 : w.cell? ⟨g, 2, none⟩ = some (.int .u64 (x.i.version : Int))
  c3 : w.cell? ⟨g, 3, none⟩ = some (.int .u64 (x.i.dead : Int))
  un : ∀ j, w.frozen? ⟨g, j, none⟩ = false
theorem BoxI.new (w : World) (x : Im) : BoxI (w.alloc (imO x)) w.heap.size x := by
  unfold imO
  constructor
  case un => exact fun j => frozen_of_row _ _ j _ _ (heap_alloc_new _ _)
  all_goals (rw [cell_of_row _ _ _ _ _ (0, 0) (heap_alloc_new _ _)]; rfl)
theorem BoxI.lt {w : World} {g : Nat} {x : Im} (h : BoxI w g x) : g < w.heap.size := World.block_lt_of_cell? _ _ h.c0
theorem BoxI.only {w w' : World} {g : Nat} {x : Im} (h : BoxI w g x) {F : Nat → Prop} (ho : Only F w w') (hn : ¬ F g) : BoxI w' g x := by
  have hl := h.lt
  have hc : ∀ j, w'.cell? ⟨g, j, none⟩ = w.cell? ⟨g, j, none⟩ := fun j => ho.cell (a := ⟨g, j, none⟩) hl hn
  exact ⟨(hc 0).trans h.c0, (hc 1).trans h.c1, (hc 2).trans h.c2, (hc 3).trans h.c3, fun j => (ho.frozen (a := ⟨g, j, none⟩) hl hn).trans (h.un j)⟩
theorem BoxI.below {w w' : World} {g : Nat} {x : Im} (h : BoxI w g x) {B : Nat} (hb : Below B w w') (hB : w.heap.size ≤ B) : BoxI w' g x := h.only (Only.of_below hb hB (fun _ => False)) (fun hf => hf)
theorem put6 (w : World) (g : Nat) (a b c d e f : Value) : Only (fun q => q = g) w ((((((w.setCell ⟨g, 0, none⟩ a).setCell ⟨g, 1, none⟩ b).setCell ⟨g, 2, none⟩ c).setCell ⟨g, 3, none⟩ d).setCell ⟨g, 4, none⟩ e).setCell ⟨g, 5, none⟩ f) :=
  ((((((Only.refl (fun q => q = g) w).put (ad := ⟨g, 0, none⟩) rfl _).put (ad := ⟨g, 1, none⟩) rfl _).put (ad := ⟨g, 2, none⟩) rfl _).put (ad := ⟨g, 3, none⟩) rfl _).put (ad := ⟨g, 4, none⟩) rfl _).put (ad := ⟨g, 5, none⟩) rfl _
theorem own_only {B : Nat} {w w' : World} {v : Value} {l : Bs} (hv : Own B w v l) {F : Nat → Prop} (ho : Only F w w') (hF : ∀ j, B ≤ j → ¬ F j) : Own B w' v l := by
  refine ⟨hv.1, ?_⟩
  rcases hv.2 with h2 | ⟨g, cap, cur, hv', hBg, hg, r⟩
  · exact Or.inl h2
  · have hlt := (Array.getElem?_eq_some_iff.1 hg).1
    exact Or.inr ⟨g, cap, cur, hv', hBg, (ho.block g hlt (hF g hBg)).trans hg, r⟩

end Go.Proofs.YthlfahblnpijaaaDoor.Se
