/- Proves words for bytes in memory: a slice that reads as a list of bytes, a row of the call's own that holds them, a reader in a block, and what becomes of each; append and the conversion to a string. Conditions: few bytes. -/
import Derived.Test.YtngeocacbegjkaaVm
import Derived.Test.YtngeocacbegjkaaAp
import Derived.Test.YtngeocacbegjkaaShelf
import Derived.Test.YtngeocacbegjkaaChecked
import Derived.WalkKit
import Derived.WalkSpells
import Derived.WalkLawsBesides
import Derived.Lib.Hide
import Derived.Below
import Derived.Laws.AppendOwnNone
import Derived.Laws.IdiomStrings
namespace Go.Proofs.Ytngeocacbegjkaa.Vw
open Go.RowKit Vm Ap

theorem ret_b {a b : Bool} (h : a = b) : Ending.returned (.bool a) = .returned (.bool b) := by rw [h]
theorem ret_i {k : IntKind} {a b : Int} (h : a = b) : Ending.returned (.int k a) = .returned (.int k b) := by rw [h]
def byteV (c : UInt8) : Value := .int .u8 (c.toNat : Int)
theorem add_plain (b o j : Nat) : (⟨b, o, none⟩ : Addr).add j = ⟨b, o + j, none⟩ := by unfold Addr.add; split <;> simp_all
/-- The slice at A reads as the bytes l. -/
def Rb (w : World) (A : Option Addr) (l : Bs) : Prop :=
  0 < l.length → ∃ b o, A = some ⟨b, o, none⟩ ∧ b < w.heap.size ∧ ∀ j (h : j < l.length), w.cell? ⟨b, o + j, none⟩ = some (.int .u8 (l[j].toNat : Int))
theorem Rb.nil (w : World) (A : Option Addr) : Rb w A [] := fun h => by simp at h
theorem Rb.below {w w' : World} {A : Option Addr} {l : Bs} (h : Rb w A l) {B : Nat} (hb : Below B w w') (hB : w.heap.size ≤ B) : Rb w' A l := fun h0 => by
  obtain ⟨b, o, e, hlt, hc⟩ := h h0
  exact ⟨b, o, e, Nat.lt_of_lt_of_le hlt hb.size, fun j hj => by rw [hb.cell (by show b < B; omega)]; exact hc j hj⟩
theorem Rb.drewN {w : World} {A : Option Addr} {l : Bs} (h : Rb w A l) (n : Nat) : Rb (w.drewN n) A l := h
theorem Rb.grown {w w' : World} {A : Option Addr} {l : Bs} {row : Option Nat} (h : Rb w A l) (hg : w.grownBy w' row) (hb : ∀ a, A = some a → some a.block ≠ row) : Rb w' A l := fun h0 => by
  obtain ⟨b, o, e, hlt, hc⟩ := h h0
  refine ⟨b, o, e, Nat.lt_of_lt_of_le hlt hg.size, fun i hi => ?_⟩
  rw [World.cell?_of_block (hg.block b hlt (hb _ e))]
  exact hc i hi
theorem Rb.at_ {w : World} {A : Option Addr} {l : Bs} (h : Rb w A l) {k : Nat} (hk : k < l.length) : ∃ b o, A = some ⟨b, o, none⟩ ∧ b < w.heap.size ∧ w.cell? ⟨b, o + k, none⟩ = some (.int .u8 (l[k].toNat : Int)) := by
  obtain ⟨b, o, e, hlt, hc⟩ := h (by omega)
  exact ⟨b, o, e, hlt, hc k hk⟩
theorem Rb.take {w : World} {A : Option Addr} {l : Bs} (h : Rb w A l) (j : Nat) : Rb w A (l.take j) := fun h0 => by
  rw [List.length_take] at h0
  obtain ⟨b, o, e, hlt, hc⟩ := h (by omega)
  exact ⟨b, o, e, hlt, fun i hi => by rw [List.getElem_take]; exact hc i (by rw [List.length_take] at hi; omega)⟩
/-- The address behind 's[k:]' where s has the capacity c. -/
def cutA (A : Option Addr) (k c : Nat) : Option Addr := if c = k then A else A.map (·.add k)
theorem Rb.cut {w : World} {A : Option Addr} {l : Bs} (h : Rb w A l) (k c : Nat) (hc : l.length ≤ c) : Rb w (cutA A k c) (l.drop k) := fun h0 => by
  rw [List.length_drop] at h0
  obtain ⟨b, o, e, hlt, hcell⟩ := h (by omega)
  refine ⟨b, o + k, by rw [cutA, if_neg (by omega), e, Option.map_some, add_plain], hlt, fun i hi => ?_⟩
  rw [List.length_drop] at hi
  rw [Nat.add_assoc, hcell (k + i) (by omega), List.getElem_drop]
theorem cutA_block {A : Option Addr} {k c : Nat} {a : Addr} (h : cutA A k c = some a) : ∃ a0, A = some a0 ∧ a0.block = a.block := by
  unfold cutA at h
  split at h
  · exact ⟨a, h, rfl⟩
  · rw [Option.map_eq_some_iff] at h
    obtain ⟨a0, h1, rfl⟩ := h
    exact ⟨a0, h1, by unfold Addr.add; split <;> rfl⟩

/-- A row of the call's own that holds the bytes l. -/
def Own (B : Nat) (w : World) (v : Value) (l : Bs) : Prop := w.ownsRow B 5 1 v l.length (l.map byteV)
theorem own_row {B : Nat} {w : World} {v : Value} {l : Bs} (h : Own B w v l) : w.ownsRow B 5 1 v l.length (l.map byteV) := h
theorem own_nil (B : Nat) (w : World) : Own B w (.slice none 0 0) [] := World.ownsRow_nil w B 5 1
theorem Rb.of_own {B : Nat} {w : World} {A : Option Addr} {c : Nat} {l : Bs} (h : Own B w (.slice A l.length c) l) : Rb w A l := fun h0 => by
  rcases h.2 with ⟨_, h1⟩ | ⟨g, cap, cur, hv, _, hg, _, _, _, ht⟩
  · omega
  · have hA : A = some ⟨g, 0, none⟩ := by injection hv
    refine ⟨g, 0, hA, (Array.getElem?_eq_some_iff.1 hg).1, fun j hj => ?_⟩
    rw [Nat.zero_add, cell_of_row w g j cur _ (0, 0) hg]
    have e : (cur.toList.take (l.length * 1))[j]? = (l.map byteV)[j]? := by rw [ht]
    rw [List.getElem?_take, if_pos (by omega)] at e
    rw [← Array.getElem?_toList, e, List.getElem?_map, List.getElem?_eq_getElem hj]
    rfl
/-- What a row's value looks like. -/
structure Sh (B : Nat) (w : World) (v : Value) (l : Bs) (A : Option Addr) (c : Nat) : Prop where
  val : v = .slice A l.length c
  le : l.length ≤ c
  max : c ≤ maxLen
  non : A = none → c = 0
  rd : Rb w A l
  base : ∀ a, A = some a → B ≤ a.block ∧ a.block < w.heap.size
theorem own_shape {B : Nat} {w : World} {v : Value} {l : Bs} (h : Own B w v l) : ∃ A c, Sh B w v l A c := by
  have h' := h
  rcases h.2 with ⟨rfl, h1⟩ | ⟨g, cap, cur, rfl, hB, hg, hc, hm, _⟩
  · refine ⟨none, 0, by rw [h1], by omega, by unfold maxLen; omega, fun _ => rfl, ?_, fun a e => by cases e⟩
    intro h0; omega
  · exact ⟨_, _, rfl, hc, hm, (fun e => by cases e), Rb.of_own h', fun a e => by injection e with e; subst e; exact ⟨hB, (Array.getElem?_eq_some_iff.1 hg).1⟩⟩
theorem own_below {B B' : Nat} {w w' : World} {v : Value} {l : Bs} (h : Own B w v l) (hb : Below B' w w') (hB : w.heap.size ≤ B') : Own B w' v l := by
  refine ⟨h.1, ?_⟩
  rcases h.2 with h2 | ⟨g, cap, cur, hv, hBg, hg, r⟩
  · exact Or.inl h2
  · have hlt : g < w.heap.size := (Array.getElem?_eq_some_iff.1 hg).1
    exact Or.inr ⟨g, cap, cur, hv, hBg, by rw [hb.block g (by omega)]; exact hg, r⟩
theorem own_grown {B : Nat} {w w' : World} {v : Value} {l : Bs} {row : Option Nat} (h : Own B w v l) (hg : w.grownBy w' row) (hne : v.ownBlock = none ∨ v.ownBlock ≠ row) : Own B w' v l := World.ownsRow.kept h hg hne
theorem own_base {B B' : Nat} {w : World} {v : Value} {l : Bs} (h : Own B w v l) (hB : B' ≤ B) : Own B' w v l := by
  refine ⟨h.1, ?_⟩
  rcases h.2 with h2 | ⟨g, cap, cur, hv, hBg, r⟩
  · exact Or.inl h2
  · exact Or.inr ⟨g, cap, cur, hv, by omega, r⟩
theorem own_lit (w : World) (l : Bs) (hl : l.length ≤ 1000000) : Own w.heap.size (w.alloc (.cells (l.map byteV).toArray 5)) (.slice (some ⟨w.heap.size, 0, none⟩) l.length l.length) l := by
  have := World.ownsRow_lit (e := 5) (size := 1) (base := w.heap.size) w (l.map byteV).toArray l.length (Nat.le_refl _) (by unfold maxLen; omega) (by simp)
  simpa [Own] using this

theorem grown_of_below {w w' : World} {B : Nat} (h : Below B w w') (hB : w.heap.size ≤ B) (row : Option Nat) : w.grownBy w' row := ⟨h.os, h.tape, h.output, h.size, fun k hk _ => h.block k (by omega)⟩
theorem below_of_grown {w w' : World} {row : Option Nat} {B : Nat} (h : w.grownBy w' row) (hB : B ≤ w.heap.size) (hr : ∀ k, row = some k → B ≤ k) : Below B w w' := (Below.refl B w).grown h hB hr

theorem elB : El Try.prog 22 5 (.int .u8 0) where
  sl := Try.underlying22
  info := by kernel_rfl
  small := by
    have h : (Try.prog.info? 5).map (·.bytes) = some 1 := by kernel_rfl
    intro i hi; rw [hi] at h; simp at h; omega
  one := rfl
/-- 'append(out, s...)' where out is the call's own row and s reads as the list, nil or not. -/
theorem wpList_from {ops : Array Oper} {rest : List Oper} {o : Oper} {a : Act} {Q : Exit → Act → World → Prop} {w : World} (hgd : o.guard = none) (s x : Operand)
    (ho : o.op = .call { callee := .builtin .append, args := #[s, x], argTypes := #[22, 22] })
    {B : Nat} {v : Value} {l : Bs} (hs : a.eval s = v) (hown : Own B w v l) (m : Bs) (A : Option Addr) (c : Nat)
    (hx : a.eval x = .slice A m.length c) (hA : A = none → c = 0) (hr : Rb w A m) (hn : l.length ≤ 1000000) (hm : m.length ≤ 1000000) (hB : B ≤ w.heap.size)
    (h : ∀ v' w', Own B w' v' (l ++ m) → w.grownBy w' v.ownBlock → wpList Try.prog ops Q rest (a.put o.dst v') w') :
    wpList Try.prog ops Q (o :: rest) a w := by
  have hi := elB.info
  rw [Option.map_eq_some_iff] at hi
  obtain ⟨i, hi1, hi2⟩ := hi
  simp only [Prod.mk.injEq] at hi2
  have hb := elB.small i hi1
  cases A with
  | none =>
    have hm0 : m = [] := by
      rcases Nat.eq_zero_or_pos m.length with h0 | h0
      · exact List.eq_nil_of_length_eq_zero h0
      · obtain ⟨_, _, e, _⟩ := hr h0; cases e
    subst hm0
    rw [hA rfl] at hx
    exact wpList_append_own_none hgd s x _ ho B _ i 1 elB.sl hi1 v _ _ hs (own_row hown) hx (h v w (by rw [List.append_nil]; exact hown) (World.grownBy.refl w _))
  | some ad =>
    have hcells : ∀ j u, (m.map byteV)[j]? = some u → w.cell? (ad.add j) = some u := by
      intro j u hu
      rw [List.getElem?_map] at hu
      cases hj : m[j]? with
      | none => rw [hj] at hu; cases hu
      | some y =>
        rw [hj] at hu
        obtain ⟨hj1, hj2⟩ := List.getElem?_eq_some_iff.1 hj
        obtain ⟨b, o', e, _, hc⟩ := hr (by omega)
        have e' : ad = ⟨b, o', none⟩ := by injection e
        subst e'
        rw [add_plain, hc j hj1, hj2]
        simpa [byteV] using hu
    have hmul : (l.length + m.length) * i.bytes ≤ 2000000 * 1024 := Nat.mul_le_mul (by omega) hb
    refine wpList_append_own _ hgd s x _ ho B _ i (.int .u8 0) 1 i.bytes elB.sl hi1 hi2.1 hi2.2 rfl elB.one (by omega) v l.length (l.map byteV) hs (own_row hown) ad m.length c (m.map byteV) hx (by simp) hcells (by intro u hu; obtain ⟨y, _, rfl⟩ := List.mem_map.1 hu; rfl) (by unfold maxLen; omega) (by omega) hB ?_
    intro v' w' h2 h3 _
    refine h v' w' ?_ h3
    unfold Own
    rw [List.length_append, List.map_append]
    exact h2
/-- 'string(b)'. -/
theorem conv_str {w : World} {A : Option Addr} {l : Bs} (c : Nat) (h : Rb w A l) : (convert 22 9 (.slice A l.length c)).run Try.prog w = .ok (.string ⟨l.toArray⟩) w := by
  by_cases h0 : l.length = 0
  · have e : l = [] := List.eq_nil_of_length_eq_zero h0
    subst e
    rw [run_convert_bytes_string w 22 9 5 A _ c Try.underlying22 Try.underlying5 Try.underlying9]
    cases A <;> rfl
  · obtain ⟨b, o, rfl, _, hc⟩ := h (by omega)
    exact run_convert_bytes_back (P := Try.prog) w 22 9 5 ⟨b, o, none⟩ c l Try.underlying22 Try.underlying5 Try.underlying9 fun j hj => by rw [add_plain]; exact hc j hj

/-- The reader in block g has the bytes l left; it and its bytes lie from block B on. -/
def Rdr (B : Nat) (w : World) (g : Nat) (l : Bs) : Prop :=
  ∃ A c, w.heap[g]? = some (.cells #[.slice A l.length c, .bool true] 53 (0, 0)) ∧ B ≤ g ∧ l.length ≤ c ∧ c ≤ maxLen ∧ (A = none → c = 0) ∧ Rb w A l ∧ ∀ a, A = some a → B ≤ a.block ∧ a.block ≠ g
theorem Rdr.lt {B : Nat} {w : World} {g : Nat} {l : Bs} (h : Rdr B w g l) : g < w.heap.size := by
  obtain ⟨A, c, h1, _⟩ := h
  exact (Array.getElem?_eq_some_iff.1 h1).1
theorem Rdr.below {B B' : Nat} {w w' : World} {g : Nat} {l : Bs} (h : Rdr B w g l) (hb : Below B' w w') (hB : w.heap.size ≤ B') : Rdr B w' g l := by
  have hg := h.lt
  obtain ⟨A, c, h1, h2, h3, h4, h5, h6, h7⟩ := h
  exact ⟨A, c, by rw [hb.block g (by omega)]; exact h1, h2, h3, h4, h5, h6.below hb hB, h7⟩
theorem Rdr.drewN {B : Nat} {w : World} {g : Nat} {l : Bs} (h : Rdr B w g l) (n : Nat) : Rdr B (w.drewN n) g l := h
/-- A write below B leaves the reader as it is. -/
theorem Rdr.grown {B : Nat} {w w' : World} {g : Nat} {l : Bs} {row : Option Nat} (h : Rdr B w g l) (hg : w.grownBy w' row) (hr : ∀ k, row = some k → k < B) : Rdr B w' g l := by
  have hlt := h.lt
  obtain ⟨A, c, h1, h2, h3, h4, h5, h6, h7⟩ := h
  exact ⟨A, c, by rw [hg.block g hlt (fun e => by have := hr g e.symm; omega)]; exact h1, h2, h3, h4, h5, h6.grown hg (fun a e e' => by have := hr a.block e'.symm; have := (h7 a e).1; omega), h7⟩
end Go.Proofs.Ytngeocacbegjkaa.Vw
