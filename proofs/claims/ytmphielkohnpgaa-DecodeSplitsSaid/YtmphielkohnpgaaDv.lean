/- Proves words for a decoder, a list of frames and a list of errors that three variables name, and what the function that takes from the decoder into the lists does. Conditions: few bytes. -/
import Derived.Test.YtmphielkohnpgaaDg
import Derived.Deep.RegionHeld3
namespace Go.Proofs.Ytmphielkohnpgaa.Dv
open Go.RowKit Vm Ap Vw Va Gc Fm Fw Mi Mb Fr Dm Dd Dn De Dh Dl Fo Da Df

/-- Where lists of frames and errors lie: their rows, and what the frames hold. -/
def Foot (FA EA : Option Addr) (fs : List Frm) : Nat → Prop := fun j => (∃ a, FA = some a ∧ a.block = j) ∨ (∃ a, EA = some a ∧ a.block = j) ∨ ∃ x ∈ fs, ∃ a, x.A = some a ∧ a.block = j
theorem outs_foot {K : Nat} {w : World} {FA EA : Option Addr} {fc ec : Nat} {fs : List Frm} {es : List Nat} (h : Outs K w FA fc EA ec fs es) {j : Nat} (hj : Foot FA EA fs j) : K ≤ j ∧ j < w.heap.size := by
  rcases hj with ⟨a, ha, rfl⟩ | ⟨a, ha, rfl⟩ | ⟨x, hx, a, ha, rfl⟩
  · exact ⟨(h.mf.base ha).1, (h.mf.base ha).2.1⟩
  · exact ⟨(h.me.base ha).1, (h.me.base ha).2.1⟩
  · exact ⟨((h.pay x hx).2 a ha).1, ((h.pay x hx).2 a ha).2.1⟩
theorem outs_kept {K : Nat} {w w' : World} {FA EA : Option Addr} {fc ec : Nat} {fs : List Frm} {es : List Nat} (h : Outs K w FA fc EA ec fs es) {G : Nat → Prop} (ho : Only G w w') (hG : ∀ j, Foot FA EA fs j → ¬ G j) : Outs K w' FA fc EA ec fs es :=
  ⟨h.mf.only ho (fun a ha => hG _ (Or.inl ⟨a, ha, rfl⟩)), h.me.only ho (fun a ha => hG _ (Or.inr (Or.inl ⟨a, ha, rfl⟩))),
    fun x hx => ⟨rb_only (h.pay x hx).1 ho (fun a ha => hG _ (Or.inr (Or.inr ⟨x, hx, a, ha, rfl⟩))), fun a ha => by
      obtain ⟨h1, h2, h3⟩ := (h.pay x hx).2 a ha
      exact ⟨h1, Nat.lt_of_lt_of_le h2 ho.size, h3⟩⟩, h.ap⟩
/-- A decoder, frames and errors, by three variables. -/
structure Tk (N : Nat) (W w : World) (F : Nat → Prop) (g q9 q11 q12 : Nat) (m : Int) (s : St) (FA : Option Addr) (fc : Nat) (EA : Option Addr) (ec : Nat) (fs : List Frm) (es : List Nat) : Prop where
  dec : Dec F w g m s
  c9 : w.cell? ⟨q9, 0, none⟩ = some (.pointer (some ⟨g, 0, none⟩))
  c11 : w.cell? ⟨q11, 0, none⟩ = some (.slice FA fs.length fc)
  c12 : w.cell? ⟨q12, 0, none⟩ = some (.slice EA es.length ec)
  f11 : w.frozen? ⟨q11, 0, none⟩ = false
  f12 : w.frozen? ⟨q12, 0, none⟩ = false
  outs : Outs N w FA fc EA ec fs es
  fl : ∀ j, F j → N ≤ j ∧ j < w.heap.size ∧ j ≠ q9 ∧ j ≠ q11 ∧ j ≠ q12
  of : ∀ j, Foot FA EA fs j → ¬ F j ∧ j ≠ q9 ∧ j ≠ q11 ∧ j ≠ q12
  ql : N ≤ q9 ∧ N ≤ q11 ∧ N ≤ q12 ∧ q9 ≠ q11 ∧ q9 ≠ q12 ∧ q11 ≠ q12
  bel : Below N W w
  nN : N ≤ w.heap.size
theorem Tk.lt {N : Nat} {W w : World} {F : Nat → Prop} {g q9 q11 q12 : Nat} {m : Int} {s : St} {FA : Option Addr} {fc : Nat} {EA : Option Addr} {ec : Nat} {fs : List Frm} {es : List Nat} (h : Tk N W w F g q9 q11 q12 m s FA fc EA ec fs es) : q9 < w.heap.size ∧ q11 < w.heap.size ∧ q12 < w.heap.size :=
  ⟨World.block_lt_of_cell? _ _ h.c9, World.block_lt_of_cell? _ _ h.c11, World.block_lt_of_cell? _ _ h.c12⟩
theorem Tk.below {N : Nat} {W w w' : World} {F : Nat → Prop} {g q9 q11 q12 : Nat} {m : Int} {s : St} {FA : Option Addr} {fc : Nat} {EA : Option Addr} {ec : Nat} {fs : List Frm} {es : List Nat} (h : Tk N W w F g q9 q11 q12 m s FA fc EA ec fs es) {B : Nat} (hb : Below B w w') (hB : w.heap.size ≤ B) : Tk N W w' F g q9 q11 q12 m s FA fc EA ec fs es := by
  obtain ⟨l1, l2, l3⟩ := h.lt
  exact ⟨h.dec.below hb hB, by rw [hb.cell (p := ⟨q9, 0, none⟩) (by show q9 < B; omega)]; exact h.c9, by rw [hb.cell (p := ⟨q11, 0, none⟩) (by show q11 < B; omega)]; exact h.c11, by rw [hb.cell (p := ⟨q12, 0, none⟩) (by show q12 < B; omega)]; exact h.c12,
    by rw [hb.frozen (p := ⟨q11, 0, none⟩) (by show q11 < B; omega)]; exact h.f11, by rw [hb.frozen (p := ⟨q12, 0, none⟩) (by show q12 < B; omega)]; exact h.f12, h.outs.below hb hB,
    fun j hj => ⟨(h.fl j hj).1, Nat.lt_of_lt_of_le (h.fl j hj).2.1 hb.size, (h.fl j hj).2.2⟩, h.of, h.ql, h.bel.trans (hb.mono (Nat.le_trans h.nN hB)), Nat.le_trans h.nN hb.size⟩
/-- The decoder has gone on: only its blocks, and new ones, have changed. -/
theorem Tk.step {N : Nat} {W w w' : World} {F F' : Nat → Prop} {g q9 q11 q12 : Nat} {m : Int} {s s' : St} {FA : Option Addr} {fc : Nat} {EA : Option Addr} {ec : Nat} {fs : List Frm} {es : List Nat} (h : Tk N W w F g q9 q11 q12 m s FA fc EA ec fs es) (ho : Only F w w') (hd : Dec F' w' g m s') (hF : ∀ j, F' j → F j ∨ w.heap.size ≤ j) :
    Tk N W w' (fun j => F' j ∧ j < w'.heap.size) g q9 q11 q12 m s' FA fc EA ec fs es := by
  obtain ⟨l1, l2, l3⟩ := h.lt
  have n9 : ¬ F q9 := fun hf => (h.fl _ hf).2.2.1 rfl
  have n11 : ¬ F q11 := fun hf => (h.fl _ hf).2.2.2.1 rfl
  have n12 : ¬ F q12 := fun hf => (h.fl _ hf).2.2.2.2 rfl
  have hn := h.nN
  refine ⟨hd.tight, by rw [ho.cell (a := ⟨q9, 0, none⟩) l1 n9]; exact h.c9, by rw [ho.cell (a := ⟨q11, 0, none⟩) l2 n11]; exact h.c11, by rw [ho.cell (a := ⟨q12, 0, none⟩) l3 n12]; exact h.c12,
    by rw [ho.frozen (a := ⟨q11, 0, none⟩) l2 n11]; exact h.f11, by rw [ho.frozen (a := ⟨q12, 0, none⟩) l3 n12]; exact h.f12, outs_kept h.outs ho (fun j hj => (h.of j hj).1), fun j hj => ?_, fun j hj => ⟨fun hf => ?_, (h.of j hj).2⟩, h.ql, h.bel.trans (ho.below (fun j hf => (h.fl j hf).1) hn), Nat.le_trans hn ho.size⟩
  · rcases hF j hj.1 with hf | hf
    · exact ⟨(h.fl j hf).1, hj.2, (h.fl j hf).2.2⟩
    · exact ⟨by omega, hj.2, by omega, by omega, by omega⟩
  · rcases hF j hf.1 with hf | hf
    · exact (h.of j hj).1 hf
    · have := (outs_foot h.outs hj).2; omega
/-- What stands of a literal of elements. -/
def Lay (w : World) (nb : Nat) (cs : Array Value) : Prop := nb < w.heap.size ∧ ∀ j u, cs.toList[j]? = some u → w.cell? ((⟨nb, 0, none⟩ : Addr).add j) = some u
theorem Lay.new {w : World} {nb : Nat} (hnb : w.heap.size = nb) (cs : Array Value) (e : TypeId) : Lay (w.alloc (.cells cs e)) nb cs := by
  subst hnb; exact ⟨by simp, new_cells w cs e⟩
theorem Lay.only {w w' : World} {nb : Nat} {cs : Array Value} (h : Lay w nb cs) {G : Nat → Prop} (ho : Only G w w') (hn : ¬ G nb) : Lay w' nb cs := by
  refine ⟨Nat.lt_of_lt_of_le h.1 ho.size, fun j u hu => ?_⟩
  have e : ((⟨nb, 0, none⟩ : Addr).add j).block = nb := by unfold Addr.add; split <;> rfl
  rw [ho.cell (by rw [e]; exact h.1) (by rw [e]; exact hn)]
  exact h.2 j u hu
theorem src_of_lit {w : World} {nb n sz : Nat} {cs : Array Value} {tx e : TypeId} (h : Lay w nb cs) (hk : Try.prog.underlying tx = some (.slice e)) (hn : cs.size = n * sz) (h1 : ∀ u ∈ cs.toList, u.oneCell' = true) : Src Try.prog sz tx (.slice (some ⟨nb, 0, none⟩) n n) n cs.toList w :=
  Src.ofSlice w hk ⟨nb, 0, none⟩ n n cs.toList (by simpa using hn) h.2 h1
end Go.Proofs.Ytmphielkohnpgaa.Dv
