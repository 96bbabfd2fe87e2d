/- Proves what the store's All is: an iterator over copies of the entries, in the order of use, each of which shares no memory. Conditions: as each theorem names them. -/
import Derived.Test.YtlmljhnogmfcfaaGreatIo
import Derived.Test.YtlmljhnogmfcfaaGreatIp
namespace Go.Proofs.YtlmljhnogmfcfaaGreat.Iu
open Go.RowKit Go.Shelf Ap Mi Nw Rg Ea Eb Ec Ed Ee El Ia Ib Ic Ik Ie If Ig Uc Io Il Ep
attribute [local go_sem] Oper.semAt_some

def Kq (G : Nat → Prop) (W W' : World) : Prop := Only (fun j => ¬ G j) W W'
theorem Kq.trans {G : Nat → Prop} {A B C : World} (h : Kq G A B) (k : Kq G B C) : Kq G A C := Only.trans h (Only.mono k fun _ _ hf => Or.inl hf)
theorem Kq.put {G : Nat → Prop} {n0 B : Nat} (hG : ∀ j, G j → j < n0) (hB : n0 ≤ B) (W : World) (l : Nat) (o' : Obj) (hl : B ≤ l) : Kq G W (W.putObj l o') :=
 Only.of_grown (grownBy_putObj' W l o') (fun k e => by cases e; intro hg; have := hG _ hg; omega)
def Nu (y : Em) (W0 W1 : World) : Prop := Below W0.heap.size W0 W1 ∧ OwE W0.heap.size W1 y
set_option maxRecDepth 100000 in
theorem eql_fn (gf : FuncId) (lb : Array Value) (w : World) : (binOp .eql 51 (.func (.func gf) #[] lb) .nilFunc).run Tryz.prog w = .ok (.bool false) w := by
 first
 | rfl
 | (simp [go_sem, Tryz.underlying51]; done)
structure Cv (n0 b3 : Nat) (G : Nat → Prop) (V : World) (pre : List Em) (W : World) : Prop where
 bx : ∃ A n, Blk W b3 #[.slice A pre.length n] 30 ∧ Mine n0 6 W A pre.length n (emL pre) ∧ (pre = [] → A = none) ∧ (∀ a, A = some a → ¬ RowsL pre a.block)
 ow : ∀ y ∈ pre, OwE n0 W y
 on : Kq G V W
theorem rows_cells {B : Nat} {w : World} {x : Em} (h : OwE B w x) {j : Nat} (hr : El.Rows x j) : B ≤ j ∧ ∃ cur e, w.heap[j]? = some (.cells cur e (0, 0)) := by
 rcases hr with ⟨a, ha, rfl⟩ | ⟨a, ha, rfl⟩
 ·rcases h.v.2 with ⟨e, _⟩ | ⟨g, cap, cur, hv, hB, hg, _⟩
  ·rw [ha] at e; cases e
  ·rw [ha] at hv; injection hv with e1; injection e1 with e1; rw [e1]; exact ⟨hB, _, _, hg⟩
 ·rcases h.t.2 with ⟨e, _⟩ | ⟨g, cap, cur, hv, hB, hg, _⟩
  ·rw [ha] at e; cases e
  ·rw [ha] at hv; injection hv with e1; injection e1 with e1; rw [e1]; exact ⟨hB, _, _, hg⟩
theorem ow_only {B : Nat} {w w' : World} {x : Em} (h : OwE B w x) {F : Nat → Prop} (ho : Only F w w') (hn : ∀ j, El.Rows x j → ¬ F j) : OwE B w' x :=
 ⟨h.f, own_keep h.v ho (fun j ej => hn j (Or.inl (by
  cases hA : x.A with
  | none => rw [hA] at ej; cases ej
  | some a => rw [hA] at ej; cases ej; exact ⟨a, rfl, rfl⟩))), own_keep h.t ho (fun j ej => hn j (Or.inr (by
  cases hA : x.B with
  | none => rw [hA] at ej; cases ej
  | some a => rw [hA] at ej; cases ej; exact ⟨a, rfl, rfl⟩)))⟩
theorem Cv.own {n0 b3 : Nat} {G : Nat → Prop} {V : World} (hb : b3 < n0) (hG : ∀ j, G j → j < n0) : OwnFrom n0 (fun (pre : List Em) W => Cv n0 b3 G V pre W) := fun pre X Y row hs hg hr => by
 obtain ⟨⟨A, n, h1, h2, h3, h5⟩, h4, h6⟩ := hs
 have ho : Only (fun j => row = some j) X Y := Only.of_grown hg (fun k e => e)
 refine ⟨⟨A, n, h1.only ho (fun e => by have := (hr _ e).1; omega), h2.only ho (fun a ha e => ?_), h3, h5⟩, fun y hy => ow_only (h4 y hy) ho (fun j hj e => ?_), Kq.trans h6 (ho.mono fun j _ e hgj => by have h7 := hG j hgj; have h8 := (hr _ e).1; omega)⟩
 ·obtain ⟨_, o, ho1, ho2⟩ := hr _ e
  have hp : 0 < pre.length := by
   rcases Nat.eq_zero_or_pos pre.length with h | h
   ·rw [h3 (List.eq_nil_of_length_eq_zero h)] at ha; cases ha
   ·exact h
  have hl : 0 < (emL pre).length := by rw [emL_len]; omega
  obtain ⟨g, ofs, e1, _, _⟩ := mine_place h2 hl
  rw [e1] at h2 ha
  injection ha with ha
  subst ha
  have := cells_of (mine_cell h2 (List.getElem?_eq_getElem hl)).1 ho1
  rw [ho2] at this; cases this
 ·obtain ⟨_, cur, e0, hc⟩ := rows_cells (h4 y hy) hj
  obtain ⟨_, o, ho1, ho2⟩ := hr _ e
  rw [hc] at ho1; cases ho1; cases ho2
end Go.Proofs.YtlmljhnogmfcfaaGreat.Iu
