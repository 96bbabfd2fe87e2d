/- Proves words for bytes in memory: a slice that reads as a list of bytes, a row of the call's own that holds them, a reader in a block, and what becomes of each; append and the conversion to a string. Conditions: few bytes. -/
import Derived.Test.YthlfahblnpijaaaDoorVm
import Derived.Test.YthlfahblnpijaaaDoorAp
import Derived.Test.YthlfahblnpijaaaDoorShelf
import Derived.Test.YthlfahblnpijaaaDoorChecked
import Derived.WalkKit
import Derived.WalkSpells
import Derived.WalkLawsBesides
import Derived.Lib.Hide
import Derived.Below
import Derived.Laws.AppendOwnNone
import Derived.Laws.IdiomStrings
import Derived.RegionTactic
namespace Go.Proofs.YthlfahblnpijaaaDoor.Vw
open Go.RowKit Vm Ap

theorem ret_b {a b : Bool} (h : a = b) : Ending.returned (.bool a) = .returned (.bool b) := by rw [h]
theorem ret_i {k : IntKind} {a b : Int} (h : a = b) : Ending.returned (.int k a) = .returned (.int k b) := by rw [h]
def byteV (c : UInt8) : Value := .int .u8 (c.toNat : Int)
theorem add_plain (b o j : Nat) : (⟨b, o, none⟩ : Addr).add j = ⟨b, o + j, none⟩ := by unfold Addr.add; split <;> simp_all
/-- The slice at A reads as the bytes l. -/
def Rb (w : World) (A : Option Addr) (l : Bs) : Prop :=
  0 < l.length → ∃ b o, A = some ⟨b, o, none⟩ ∧ b < w.heap.size ∧ ∀ j (h : j < l.length), w.cell? ⟨b, o + j, none⟩ = some (.int .u8 (l[j].toNat : Int))
theorem Rb.nil (w : World) (A : Option Addr) : Rb w A [] := fun h => by simp at h
theorem Rb.below {w w' : World} {A : Option Addr} {l : Bs} (h : Rb w A l) {B : Nat} (hb : Below B w w') (hB : w.heap.size ≤ B) : Rb w' A l := fun h0 => by
  obtain ⟨b, o, e, hlt, hc⟩ := h h0
  exact ⟨b, o, e, Nat.lt_of_lt_of_le hlt hb.size, fun j hj => by rw [hb.cell (by show b < B; omega)]; exact hc j hj⟩
theorem Rb.drewN {w : World} {A : Option Addr} {l : Bs} (h : Rb w A l) (n : Nat) : Rb (w.drewN n) A l := h
theorem Rb.grown {w w' : World} {A : Option Addr} {l : Bs} {row : Option Nat} (h : Rb w A l) (hg : w.grownBy w' row) (hb : ∀ a, A = some a → some a.block ≠ row) : Rb w' A l := fun h0 => by
  obtain ⟨b, o, e, hlt, hc⟩ := h h0
  refine ⟨b, o, e, Nat.lt_of_lt_of_le hlt hg.size, fun i hi => ?_⟩
  rw [World.cell?_of_block (hg.block b hlt (hb _ e))]
  exact hc i hi
theorem Rb.at_ {w : World} {A : Option Addr} {l : Bs} (h : Rb w A l) {k : Nat} (hk : k < l.length) : ∃ b o, A = some ⟨b, o, none⟩ ∧ b < w.heap.size ∧ w.cell? ⟨b, o + k, none⟩ = some (.int .u8 (l[k].toNat : Int)) := by
  obtain ⟨b, o, e, hlt, hc⟩ := h (by omega)
  exact ⟨b, o, e, hlt, hc k hk⟩
theorem Rb.take {w : World} {A : Option Addr} {l : Bs} (h : Rb w A l) (j : Nat) : Rb w A (l.take j) := fun h0 => by
  rw [List.length_take] at h0
  obtain ⟨b, o, e, hlt, hc⟩ := h (by omega)
  exact ⟨b, o, e, hlt, fun i hi => by rw [List.getElem_take]; exact hc i (by rw [List.length_take] at hi; omega)⟩
/-- The address behind 's[k:]' where s has the capacity c. -/
def cutA (A : Option Addr) (k c : Nat) : Option Addr := if c = k then A else A.map (·.add k)
theorem Rb.cut {w : World} {A : Option Addr} {l : Bs} (h : Rb w A l) (k c : Nat) (hc : l.length ≤ c) : Rb w (cutA A k c) (l.drop k) := fun h0 => by
  rw [List.length_drop] at h0
  obtain ⟨b, o, e, hlt, hcell⟩ := h (by omega)
  refine ⟨b, o + k, by rw [cutA, if_neg (by omega), e, Option.map_some, add_plain], hlt, fun i hi => ?_⟩
  rw [List.length_drop] at hi
  rw [Nat.add_assoc, hcell (k + i) (by omega), List.getElem_drop]
theorem cutA_block {A : Option Addr} {k c : Nat} {a : Addr} (h : cutA A k c = some a) : ∃ a0, A = some a0 ∧ a0.block = a.block := by
  unfold cutA at h
  split at h
  · exact ⟨a, h, rfl⟩
  · rw [Option.map_eq_some_iff] at h
    obtain ⟨a0, h1, rfl⟩ := h
    exact ⟨a0, h1, by unfold Addr.add; split <;> rfl⟩

/-- A row of the call's own that holds the bytes l. -/
def Own (B : Nat) (w : World) (v : Value) (l : Bs) : Prop := w.ownsRow B 5 1 v l.length (l.map byteV)
theorem own_row {B : Nat} {w : World} {v : Value} {l : Bs} (h : Own B w v l) : w.ownsRow B 5 1 v l.length (l.map byteV) := h
theorem own_nil (B : Nat) (w : World) : Own B w (.slice none 0 0) [] := World.ownsRow_nil w B 5 1
theorem Rb.of_own {B : Nat} {w : World} {A : Option Addr} {c : Nat} {l : Bs} (h : Own B w (.slice A l.length c) l) : Rb w A l := fun h0 => by
  rcases h.2 with ⟨_, h1⟩ | ⟨g, cap, cur, hv, _, hg, _, _, _, ht⟩
  · omega
  · have hA : A = some ⟨g, 0, none⟩ := by injection hv
    refine ⟨g, 0, hA, (Array.getElem?_eq_some_iff.1 hg).1, fun j hj => ?_⟩
    rw [Nat.zero_add, cell_of_row w g j cur _ (0, 0) hg]
    have e : (cur.toList.take (l.length * 1))[j]? = (l.map byteV)[j]? := by rw [ht]
    rw [List.getElem?_take, if_pos (by omega)] at e
    rw [← Array.getElem?_toList, e, List.getElem?_map, List.getElem?_eq_getElem hj]
    rfl
/-- What a row's value looks like. -/
structure Sh (B : Nat) (w : World) (v : Value) (l : Bs) (A : Option Addr) (c : Nat) : Prop where
  val : v = .slice A l.length c
  le : l.length ≤ c
  max : c ≤ maxLen
  non : A = none → c = 0
  rd : Rb w A l
  base : ∀ a, A = some a → B ≤ a.block ∧ a.block < w.heap.size
theorem own_shape {B : Nat} {w : World} {v : Value} {l : Bs} (h : Own B w v l) : ∃ A c, Sh B w v l A c := by
  have h' := h
  rcases h.2 with ⟨rfl, h1⟩ | ⟨g, cap, cur, rfl, hB, hg, hc, hm, _⟩
  · refine ⟨none, 0, by rw [h1], by omega, by unfold maxLen; omega, fun _ => rfl, ?_, fun a e => by cases e⟩
    intro h0; omega
  · exact ⟨_, _, rfl, hc, hm, (fun e => by cases e), Rb.of_own h', fun a e => by injection e with e; subst e; exact ⟨hB, (Array.getElem?_eq_some_iff.1 hg).1⟩⟩
theorem own_below {B B' : Nat} {w w' : World} {v : Value} {l : Bs} (h : Own B w v l) (hb : Below B' w w') (hB : w.heap.size ≤ B') : Own B w' v l := by
  refine ⟨h.1, ?_⟩
  rcases h.2 with h2 | ⟨g, cap, cur, hv, hBg, hg, r⟩
  · exact Or.inl h2
  · have hlt : g < w.heap.size := (Array.getElem?_eq_some_iff.1 hg).1
    exact Or.inr ⟨g, cap, cur, hv, hBg, by rw [hb.block g (by omega)]; exact hg, r⟩
theorem own_grown {B : Nat} {w w' : World} {v : Value} {l : Bs} {row : Option Nat} (h : Own B w v l) (hg : w.grownBy w' row) (hne : v.ownBlock = none ∨ v.ownBlock ≠ row) : Own B w' v l := World.ownsRow.kept h hg hne
theorem own_base {B B' : Nat} {w : World} {v : Value} {l : Bs} (h : Own B w v l) (hB : B' ≤ B) : Own B' w v l := by
  refine ⟨h.1, ?_⟩
  rcases h.2 with h2 | ⟨g, cap, cur, hv, hBg, r⟩
  · exact Or.inl h2
  · exact Or.inr ⟨g, cap, cur, hv, by omega, r⟩
theorem own_lit (w : World) (l : Bs) (hl : l.length ≤ 1000000000) : Own w.heap.size (w.alloc (.cells (l.map byteV).toArray 5)) (.slice (some ⟨w.heap.size, 0, none⟩) l.length l.length) l := by
  have := World.ownsRow_lit (e := 5) (size := 1) (base := w.heap.size) w (l.map byteV).toArray l.length (Nat.le_refl _) (by unfold maxLen; omega) (by simp)
  simpa [Own] using this

theorem grown_of_below {w w' : World} {B : Nat} (h : Below B w w') (hB : w.heap.size ≤ B) (row : Option Nat) : w.grownBy w' row := ⟨h.os, h.tape, h.output, h.size, fun k hk _ => h.block k (by omega)⟩
theorem below_of_grown {w w' : World} {row : Option Nat} {B : Nat} (h : w.grownBy w' row) (hB : B ≤ w.heap.size) (hr : ∀ k, row = some k → B ≤ k) : Below B w w' := (Below.refl B w).grown h hB hr

theorem elB : El Tryd.prog 29 5 (.int .u8 0) where
  sl := Tryd.underlying29
  info := by kernel_rfl
  small := by
    have h : (Tryd.prog.info? 5).map (·.bytes) = some 1 := by kernel_rfl
    intro i hi; rw [hi] at h; simp at h; omega
  one := rfl
/-- 'append(out, s...)' where out is the call's own row and s reads as the list, nil or not. -/
theorem wpList_from {ops : Array Oper} {rest : List Oper} {o : Oper} {a : Act} {Q : Exit → Act → World → Prop} {w : World} (hgd : o.guard = none) (s x : Operand)
    (ho : o.op = .call { callee := .builtin .append, args := #[s, x], argTypes := #[29, 29] })
    {B : Nat} {v : Value} {l : Bs} (hs : a.eval s = v) (hown : Own B w v l) (m : Bs) (A : Option Addr) (c : Nat)
    (hx : a.eval x = .slice A m.length c) (hA : A = none → c = 0) (hr : Rb w A m) (hn : l.length ≤ 1000000000) (hm : m.length ≤ 1000000000) (hB : B ≤ w.heap.size)
    (h : ∀ v' w', Own B w' v' (l ++ m) → w.grownBy w' v.ownBlock → wpList Tryd.prog ops Q rest (a.put o.dst v') w') :
    wpList Tryd.prog ops Q (o :: rest) a w := by
  have hi := elB.info
  rw [Option.map_eq_some_iff] at hi
  obtain ⟨i, hi1, hi2⟩ := hi
  simp only [Prod.mk.injEq] at hi2
  have hb := elB.small i hi1
  cases A with
  | none =>
    have hm0 : m = [] := by
      rcases Nat.eq_zero_or_pos m.length with h0 | h0
      · exact List.eq_nil_of_length_eq_zero h0
      · obtain ⟨_, _, e, _⟩ := hr h0; cases e
    subst hm0
    rw [hA rfl] at hx
    exact wpList_append_own_none hgd s x _ ho B _ i 1 elB.sl hi1 v _ _ hs (own_row hown) hx (h v w (by rw [List.append_nil]; exact hown) (World.grownBy.refl w _))
  | some ad =>
    have hcells : ∀ j u, (m.map byteV)[j]? = some u → w.cell? (ad.add j) = some u := by
      intro j u hu
      rw [List.getElem?_map] at hu
      cases hj : m[j]? with
      | none => rw [hj] at hu; cases hu
      | some y =>
        rw [hj] at hu
        obtain ⟨hj1, hj2⟩ := List.getElem?_eq_some_iff.1 hj
        obtain ⟨b, o', e, _, hc⟩ := hr (by omega)
        have e' : ad = ⟨b, o', none⟩ := by injection e
        subst e'
        rw [add_plain, hc j hj1, hj2]
        simpa [byteV] using hu
    have hmul : (l.length + m.length) * i.bytes ≤ 2000000000 * 1024 := Nat.mul_le_mul (by omega) hb
    refine wpList_append_own _ hgd s x _ ho B _ i (.int .u8 0) 1 i.bytes elB.sl hi1 hi2.1 hi2.2 rfl elB.one (by omega) v l.length (l.map byteV) hs (own_row hown) ad m.length c (m.map byteV) hx (by simp) hcells (by intro u hu; obtain ⟨y, _, rfl⟩ := List.mem_map.1 hu; rfl) (by unfold maxLen; omega) (by omega) hB ?_
    intro v' w' h2 h3 _
    refine h v' w' ?_ h3
    unfold Own
    rw [List.length_append, List.map_append]
    exact h2
/-- 'string(b)'. -/
theorem conv_str {w : World} {A : Option Addr} {l : Bs} (c : Nat) (h : Rb w A l) : (convert 29 9 (.slice A l.length c)).run Tryd.prog w = .ok (.string ⟨l.toArray⟩) w := by
  by_cases h0 : l.length = 0
  · have e : l = [] := List.eq_nil_of_length_eq_zero h0
    subst e
    rw [run_convert_bytes_string w 29 9 5 A _ c Tryd.underlying29 Tryd.underlying5 Tryd.underlying9]
    cases A <;> rfl
  · obtain ⟨b, o, rfl, _, hc⟩ := h (by omega)
    exact run_convert_bytes_back (P := Tryd.prog) w 29 9 5 ⟨b, o, none⟩ c l Tryd.underlying29 Tryd.underlying5 Tryd.underlying9 fun j hj => by rw [add_plain]; exact hc j hj

/-- What an argument of bytes gives. -/
structure Arg (W : World) (A : Option Addr) (l : Bs) (c : Nat) : Prop where
  rd : Rb W A l
  le : l.length ≤ c
  max : c ≤ maxLen
  non : A = none → c = 0
theorem own_form {B : Nat} {w : World} {v : Value} {l : Bs} (h : Own B w v l) : (v = .slice none 0 0 ∧ l = []) ∨ ∃ g cap, v = .slice (some ⟨g, 0, none⟩) l.length cap ∧ B ≤ g ∧ g < w.heap.size ∧ l.length ≤ cap := by
  rcases h.2 with ⟨hv, h0⟩ | ⟨g, cap, cur, hv, hB, hg, hc, _⟩
  · exact Or.inl ⟨hv, List.eq_nil_of_length_eq_zero h0⟩
  · exact Or.inr ⟨g, cap, hv, hB, (Array.getElem?_eq_some_iff.1 hg).1, hc⟩
theorem own_cell {B g cap n : Nat} {w : World} {m : Bs} (hn : m.length = n) (h : Own B w (.slice (some ⟨g, 0, none⟩) n cap) m) {k : Nat} (hk : k < m.length) : w.cell? ⟨g, k, none⟩ = some (.int .u8 (m[k].toNat : Int)) ∧ w.frozen? ⟨g, k, none⟩ = false := by
  subst hn
  have h' : w.ownsRow B 5 1 (.slice (some ⟨g, 0, none⟩) m.length cap) m.length (m.map byteV) := h
  refine ⟨?_, h'.frozenAt k⟩
  rw [h'.cellAt k (by omega), List.getElem?_map, List.getElem?_eq_getElem hk]; rfl
theorem own_store {B g cap n : Nat} {w : World} {m : Bs} (hn : m.length = n) (h : Own B w (.slice (some ⟨g, 0, none⟩) n cap) m) (k x : Nat) (hx : x < 256) :
    Own B (w.setCell ⟨g, k, none⟩ (.int .u8 (x : Int))) (.slice (some ⟨g, 0, none⟩) n cap) (m.set k (UInt8.ofNat x)) := by
  subst hn
  have h' : w.ownsRow B 5 1 (.slice (some ⟨g, 0, none⟩) m.length cap) m.length (m.map byteV) := h
  have := (h'.stored k (.int .u8 (x : Int))).1
  unfold Own
  rw [List.length_set, List.map_set, show byteV (UInt8.ofNat x) = .int .u8 (x : Int) from by unfold byteV; rw [of_nat hx]]
  exact this
theorem grown_trans {a b c : World} {row : Option Nat} (h : a.grownBy b row) (k : b.grownBy c row) : a.grownBy c row := Ap.grown_trans h k
theorem grown_store {a w : World} {g : Nat} (h : a.grownBy w (some g)) (k : Nat) (u : Value) : a.grownBy (w.setCell ⟨g, k, none⟩ u) (some g) :=
  ⟨h.os, h.tape, h.output, by simpa using h.size, fun j hj hne => (heap_setCell_other w ⟨g, k, none⟩ j _ (fun e => hne (by simp [e]))).trans (h.block j hj hne)⟩
theorem Rb.sub {w : World} {b o : Nat} {l : Bs} (h : Rb w (some ⟨b, o, none⟩) l) (s n : Nat) : Rb w (some ⟨b, o + s, none⟩) ((l.drop s).take n) := fun h0 => by
  rw [List.length_take, List.length_drop] at h0
  obtain ⟨b', o', e, hlt, hcell⟩ := h (by omega)
  injection e with e
  injection e with e1 e2
  subst e1; subst e2
  refine ⟨b, o + s, rfl, hlt, fun i hi => ?_⟩
  rw [List.length_take, List.length_drop] at hi
  rw [Nat.add_assoc, hcell (s + i) (by omega), List.getElem_take, List.getElem_drop]

theorem Rb.far {w w1 w2 : World} {A : Option Addr} {l : Bs} {g : Nat} (h0 : Rb w A l) (hg : w.heap.size ≤ g) (h1 : Rb w1 A l) (h2 : w1.grownBy w2 (some g)) : Rb w2 A l := fun hpos => by
  obtain ⟨b, o, e, hlt, _⟩ := h0 hpos
  exact h1.grown h2 (fun a e' e2 => by rw [e] at e'; injection e' with e'; subst e'; injection e2 with e2; simp only at e2; omega) hpos

theorem Rb.lit (w : World) (l : Bs) (hl : l.length ≤ 1000000000) : Rb (w.alloc (.cells (l.map byteV).toArray 5)) (some ⟨w.heap.size, 0, none⟩) l := by
  have h := own_lit w l hl
  exact Rb.of_own h
theorem Rb.marked (w : World) (l : Bs) (fr : Nat × Nat) : Rb (w.alloc (.cells (l.map byteV).toArray 5 fr)) (some ⟨w.heap.size, 0, none⟩) l := fun _ =>
  ⟨w.heap.size, 0, rfl, by simp, fun j hj => by
    rw [Nat.zero_add, World.cell?_alloc_mark]
    simp [List.getElem?_eq_getElem hj, byteV]⟩
theorem step0 {w a b : World} (h : Below w.heap.size w a) (k : Below a.heap.size a b) : Below w.heap.size w b := h.trans (k.mono h.size)
theorem step1 {w a b : World} {o : Obj} (h : Below w.heap.size w a) (k : Below (a.alloc o).heap.size (a.alloc o) b) : Below w.heap.size w b := step0 (h.alloc h.size o) k
theorem step2 {w a b : World} {o p : Obj} (h : Below w.heap.size w a) (k : Below ((a.alloc o).alloc p).heap.size ((a.alloc o).alloc p) b) : Below w.heap.size w b := step1 (h.alloc h.size o) k
/-- 'append(out, s...)' where the number of bytes is at hand. -/
theorem wpList_at {ops : Array Oper} {rest : List Oper} {o : Oper} {a : Act} {Q : Exit → Act → World → Prop} {w : World} (hgd : o.guard = none) (s x : Operand)
    (ho : o.op = .call { callee := .builtin .append, args := #[s, x], argTypes := #[29, 29] })
    {B : Nat} {v : Value} {l : Bs} (hs : a.eval s = v) (hown : Own B w v l) (m : Bs) (A : Option Addr) (c n : Nat)
    (hx : a.eval x = .slice A n c) (hmn : m.length = n) (hA : A = none → c = 0) (hr : Rb w A m) (hn : l.length ≤ 1000000000) (hm : m.length ≤ 1000000000) (hB : B ≤ w.heap.size)
    (h : ∀ v' w', Own B w' v' (l ++ m) → w.grownBy w' v.ownBlock → wpList Tryd.prog ops Q rest (a.put o.dst v') w') :
    wpList Tryd.prog ops Q (o :: rest) a w := by
  subst hmn; exact wpList_from hgd s x ho hs hown m A c hx hA hr hn hm hB h

/-- 'append(out, s...)' in a region that draws its order, at the world at hand. -/
theorem step_from {ops : Array Oper} {o : Oper} {a : Act} {K : Act → World → Prop} {Q : Exit → Act → World → Prop} {E : Prop} {w : World} (hgd : o.guard = none) (s x : Operand)
    (ho : o.op = .call { callee := .builtin .append, args := #[s, x], argTypes := #[29, 29] })
    {B : Nat} {v : Value} {l : Bs} (hs : a.eval s = v) (hown : Own B w v l) (m : Bs) (A : Option Addr) (c : Nat)
    (hx : a.eval x = .slice A m.length c) (hA : A = none → c = 0) (hr : Rb w A m) (hn : l.length ≤ 1000000000) (hm : m.length ≤ 1000000000) (hB : B ≤ w.heap.size)
    (h : ∀ v' w', Own B w' v' (l ++ m) → w.grownBy w' v.ownBlock → K (a.put o.dst v') w') :
    if Region.wanted o (yielded ops a.tmps) = true then Oper.wp Tryd.prog o a w K Q else E := by
  have hwd : Region.wanted o (yielded ops a.tmps) = true := by simp [Region.wanted, hgd]
  rw [if_pos hwd]
  have hi := elB.info
  rw [Option.map_eq_some_iff] at hi
  obtain ⟨i, hi1, hi2⟩ := hi
  simp only [Prod.mk.injEq] at hi2
  have hb := elB.small i hi1
  cases A with
  | none =>
    have hm0 : m = [] := by
      rcases Nat.eq_zero_or_pos m.length with h0 | h0
      · exact List.eq_nil_of_length_eq_zero h0
      · obtain ⟨_, _, e, _⟩ := hr h0; cases e
    subst hm0
    rw [hA rfl] at hx
    have hrun := run_append_owned_none (P := Tryd.prog) w B 29 o.type 5 i 1 elB.sl hi1 v _ _ (own_row hown)
    have hx' : a.eval x = .slice none 0 0 := hx
    have hk := h v w (by rw [List.append_nil]; exact hown) (World.grownBy.refl w _)
    unfold Oper.wp
    simp [execOp, ho, resolve, invoke, builtin, hs, hx', hrun, Result.andThen]
    exact hk
  | some ad =>
    have hcells : ∀ j u, (m.map byteV)[j]? = some u → w.cell? (ad.add j) = some u := by
      intro j u hu
      rw [List.getElem?_map] at hu
      cases hj : m[j]? with
      | none => rw [hj] at hu; cases hu
      | some y =>
        rw [hj] at hu
        obtain ⟨hj1, hj2⟩ := List.getElem?_eq_some_iff.1 hj
        obtain ⟨b, o', e, _, hc⟩ := hr (by omega)
        have e' : ad = ⟨b, o', none⟩ := by injection e
        subst e'
        rw [add_plain, hc j hj1, hj2]
        simpa [byteV] using hu
    have hmul : (l.length + m.length) * i.bytes ≤ 2000000000 * 1024 := Nat.mul_le_mul (by omega) hb
    refine wp_append_own _ s x _ ho B _ i (.int .u8 0) 1 i.bytes elB.sl hi1 hi2.1 hi2.2 rfl elB.one (by omega) v l.length (l.map byteV) hs (own_row hown) ad m.length c (m.map byteV) hx (by simp) hcells (by intro u hu; obtain ⟨y, _, rfl⟩ := List.mem_map.1 hu; rfl) (by unfold maxLen; omega) (by omega) hB ?_
    intro v' w' h2 h3 _
    refine h v' w' ?_ h3
    unfold Own
    rw [List.length_append, List.map_append]
    exact h2

end Go.Proofs.YthlfahblnpijaaaDoor.Vw
