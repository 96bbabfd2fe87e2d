/- Proves words for lists of strings in memory: a slice that reads as a list, a row of the call's own that holds it, and append. Condition: few strings. No function of the program. -/
import Derived.Test.YthlfahblnpijaaaDoorMb
namespace Go.Proofs.YthlfahblnpijaaaDoor.Qs
open Go.RowKit Vm Ap Vw Va Gc Mi Mb

def strV (l : Bs) : Value := .string ⟨l.toArray⟩
theorem str_of {o : ByteArray} {l : Bs} (h : o.data.toList = l) : Value.string o = strV l := by subst h; simp [strV]
theorem conv_bytes {w : World} {A : Option Addr} {l : Bs} (c : Nat) (h : Rb w A l) : (convert 29 9 (.slice A l.length c)).run Tryd.prog w = .ok (.string ⟨l.toArray⟩) w := conv_str c h
/-- The slice at A reads as the list l. -/
def Rd (w : World) (A : Option Addr) (l : List Bs) : Prop :=
  0 < l.length → ∃ b o, A = some ⟨b, o, none⟩ ∧ b < w.heap.size ∧ ∀ j (h : j < l.length), w.cell? ⟨b, o + j, none⟩ = some (.string ⟨l[j].toArray⟩)
theorem Rd.nil (w : World) (A : Option Addr) : Rd w A [] := fun h => by simp at h
theorem Rd.below {w w' : World} {A : Option Addr} {l : List Bs} (h : Rd w A l) {B : Nat} (hb : Below B w w') (hB : w.heap.size ≤ B) : Rd w' A l := fun h0 => by
  obtain ⟨b, o, e, hlt, hc⟩ := h h0
  exact ⟨b, o, e, Nat.lt_of_lt_of_le hlt hb.size, fun j hj => by rw [hb.cell (by show b < B; omega)]; exact hc j hj⟩
theorem Rd.drewN {w : World} {A : Option Addr} {l : List Bs} (h : Rd w A l) (n : Nat) : Rd (w.drewN n) A l := h
theorem Rd.at_ {w : World} {A : Option Addr} {l : List Bs} (h : Rd w A l) {k : Nat} (hk : k < l.length) : ∃ b o, A = some ⟨b, o, none⟩ ∧ b < w.heap.size ∧ w.cell? ⟨b, o + k, none⟩ = some (.string ⟨l[k].toArray⟩) := by
  obtain ⟨b, o, e, hlt, hc⟩ := h (by omega)
  exact ⟨b, o, e, hlt, hc k hk⟩
theorem Rd.only {w w' : World} {A : Option Addr} {l : List Bs} (h : Rd w A l) {F : Nat → Prop} (ho : Only F w w') (hn : ∀ a, A = some a → ¬ F a.block) : Rd w' A l := fun h0 => by
  obtain ⟨b, o, e, hlt, hc⟩ := h h0
  exact ⟨b, o, e, Nat.lt_of_lt_of_le hlt ho.size, fun j hj => by rw [ho.cell (a := ⟨b, o + j, none⟩) hlt (hn ⟨b, o, none⟩ e)]; exact hc j hj⟩
theorem elS : El Tryd.prog 40 9 (.string ⟨#[]⟩) where
  sl := Tryd.underlying40
  info := by kernel_rfl
  small := by
    have h : (Tryd.prog.info? 9).map (·.bytes) = some 16 := by kernel_rfl
    intro i hi; rw [hi] at h; simp at h; omega
  one := rfl
/-- A row of the call's own that holds the list l. -/
def Ows (B : Nat) (w : World) (v : Value) (l : List Bs) : Prop := w.ownsRow B 9 1 v l.length (l.map strV)
theorem ows_row {B : Nat} {w : World} {v : Value} {l : List Bs} (h : Ows B w v l) : w.ownsRow B 9 1 v l.length (l.map strV) := h
theorem ows_nil (B : Nat) (w : World) : Ows B w (.slice none 0 0) [] := World.ownsRow_nil _ _ _ _
theorem Rd.of_own {B : Nat} {w : World} {A : Option Addr} {c : Nat} {l : List Bs} (h : Ows B w (.slice A l.length c) l) : Rd w A l := fun h0 => by
  rcases h.2 with ⟨_, h1⟩ | ⟨g, cap, cur, hv, _, hg, _, _, _, ht⟩
  · omega
  · have hA : A = some ⟨g, 0, none⟩ := by injection hv
    refine ⟨g, 0, hA, (Array.getElem?_eq_some_iff.1 hg).1, fun j hj => ?_⟩
    rw [Nat.zero_add, cell_of_row w g j cur _ (0, 0) hg]
    have e : (cur.toList.take (l.length * 1))[j]? = (l.map strV)[j]? := by rw [ht]
    rw [List.getElem?_take, if_pos (by omega)] at e
    rw [← Array.getElem?_toList, e, List.getElem?_map, List.getElem?_eq_getElem hj]
    rfl
/-- What a row's value looks like. -/
structure Shs (B : Nat) (w : World) (v : Value) (l : List Bs) (A : Option Addr) (c : Nat) : Prop where
  val : v = .slice A l.length c
  le : l.length ≤ c
  max : c ≤ maxLen
  non : A = none → c = 0
  rd : Rd w A l
  base : ∀ a, A = some a → B ≤ a.block ∧ a.block < w.heap.size
theorem ows_shape {B : Nat} {w : World} {v : Value} {l : List Bs} (h : Ows B w v l) : ∃ A c, Shs B w v l A c := by
  have h' := h
  rcases h.2 with ⟨rfl, h1⟩ | ⟨g, cap, cur, rfl, hB, hg, hc, hm, _⟩
  · refine ⟨none, 0, by rw [h1], by omega, by unfold maxLen; omega, fun _ => rfl, ?_, fun a e => by cases e⟩
    intro h0; omega
  · exact ⟨_, _, rfl, hc, hm, (fun e => by cases e), Rd.of_own h', fun a e => by injection e with e; subst e; exact ⟨hB, (Array.getElem?_eq_some_iff.1 hg).1⟩⟩
theorem ows_below {B B' : Nat} {w w' : World} {v : Value} {l : List Bs} (h : Ows B w v l) (hb : Below B' w w') (hB : w.heap.size ≤ B') : Ows B w' v l := by
  refine ⟨h.1, ?_⟩
  rcases h.2 with h2 | ⟨g, cap, cur, hv, hBg, hg, r⟩
  · exact Or.inl h2
  · have hlt : g < w.heap.size := (Array.getElem?_eq_some_iff.1 hg).1
    exact Or.inr ⟨g, cap, cur, hv, hBg, by rw [hb.block g (by omega)]; exact hg, r⟩
theorem ows_grown {B : Nat} {w w' : World} {v : Value} {l : List Bs} {row : Option Nat} (h : Ows B w v l) (hg : w.grownBy w' row) (hne : v.ownBlock = none ∨ v.ownBlock ≠ row) : Ows B w' v l := World.ownsRow.kept h hg hne
theorem ows_base {B B' : Nat} {w : World} {v : Value} {l : List Bs} (h : Ows B w v l) (hB : B' ≤ B) : Ows B' w v l := by
  refine ⟨h.1, ?_⟩
  rcases h.2 with h2 | ⟨g, cap, cur, hv, hBg, r⟩
  · exact Or.inl h2
  · exact Or.inr ⟨g, cap, cur, hv, by omega, r⟩
theorem ows_form {B : Nat} {w : World} {v : Value} {l : List Bs} (h : Ows B w v l) : (v = .slice none 0 0 ∧ l = []) ∨ ∃ g cap, v = .slice (some ⟨g, 0, none⟩) l.length cap ∧ B ≤ g ∧ g < w.heap.size ∧ l.length ≤ cap := by
  rcases h.2 with ⟨hv, h0⟩ | ⟨g, cap, cur, hv, hB, hg, hc, _⟩
  · exact Or.inl ⟨hv, List.eq_nil_of_length_eq_zero h0⟩
  · exact Or.inr ⟨g, cap, hv, hB, (Array.getElem?_eq_some_iff.1 hg).1, hc⟩
theorem Rd.lit (w : World) (l : List Bs) : Rd (w.alloc (.cells (l.map strV).toArray 9)) (some ⟨w.heap.size, 0, none⟩) l := fun _ =>
  ⟨w.heap.size, 0, rfl, by simp, fun j hj => by
    rw [Nat.zero_add, cell_of_row _ _ j _ _ (0, 0) (heap_alloc_new w _)]
    simp [List.getElem?_eq_getElem hj, strV]⟩
/-- 'append(out, s...)' where s reads as the list, nil or not. -/
theorem wpList_strs {ops : Array Oper} {rest : List Oper} {o : Oper} {a : Act} {Q : Exit → Act → World → Prop} {w : World} (hgd : o.guard = none) (s x : Operand)
    (ho : o.op = .call { callee := .builtin .append, args := #[s, x], argTypes := #[40, 40] })
    {B : Nat} {v : Value} {l : List Bs} (hs : a.eval s = v) (hown : Ows B w v l) (m : List Bs) (A : Option Addr) (c : Nat)
    (hx : a.eval x = .slice A m.length c) (hA : A = none → c = 0) (hr : Rd w A m) (hn : l.length ≤ 1000000) (hm : m.length ≤ 1000000) (hB : B ≤ w.heap.size)
    (h : ∀ v' w', Ows B w' v' (l ++ m) → w.grownBy w' v.ownBlock → wpList Tryd.prog ops Q rest (a.put o.dst v') w') :
    wpList Tryd.prog ops Q (o :: rest) a w := by
  have hi := elS.info
  rw [Option.map_eq_some_iff] at hi
  obtain ⟨i, hi1, hi2⟩ := hi
  simp only [Prod.mk.injEq] at hi2
  have hb := elS.small i hi1
  cases A with
  | none =>
    have hm0 : m = [] := by
      rcases Nat.eq_zero_or_pos m.length with h0 | h0
      · exact List.eq_nil_of_length_eq_zero h0
      · obtain ⟨_, _, e, _⟩ := hr h0; cases e
    subst hm0
    rw [hA rfl] at hx
    exact wpList_append_own_none hgd s x _ ho B _ i 1 elS.sl hi1 v _ _ hs (ows_row hown) hx (h v w (by rw [List.append_nil]; exact hown) (World.grownBy.refl w _))
  | some ad =>
    have hcells : ∀ j u, (m.map strV)[j]? = some u → w.cell? (ad.add j) = some u := by
      intro j u hu
      rw [List.getElem?_map] at hu
      cases hj : m[j]? with
      | none => rw [hj] at hu; cases hu
      | some y =>
        rw [hj] at hu
        obtain ⟨hj1, hj2⟩ := List.getElem?_eq_some_iff.1 hj
        obtain ⟨b, o', e, _, hc⟩ := hr (by omega)
        have e' : ad = ⟨b, o', none⟩ := by injection e
        subst e'
        rw [add_plain, hc j hj1, hj2]
        simpa [strV] using hu
    have hmul : (l.length + m.length) * i.bytes ≤ 2000000 * 1024 := Nat.mul_le_mul (by omega) hb
    refine wpList_append_own _ hgd s x _ ho B _ i (.string ⟨#[]⟩) 1 i.bytes elS.sl hi1 hi2.1 hi2.2 rfl elS.one (by omega) v l.length (l.map strV) hs (ows_row hown) ad m.length c (m.map strV) hx (by simp) hcells (by intro u hu; obtain ⟨y, _, rfl⟩ := List.mem_map.1 hu; rfl) (by unfold maxLen; omega) (by omega) hB ?_
    intro v' w' h2 h3 _
    refine h v' w' ?_ h3
    unfold Ows
    rw [List.length_append, List.map_append]
    exact h2
end Go.Proofs.YthlfahblnpijaaaDoor.Qs
