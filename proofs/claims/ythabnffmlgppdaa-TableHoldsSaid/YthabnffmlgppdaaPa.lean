/- Proves what a table of the program is in memory, and what its methods round, next, way, home, usable and find return. Conditions: as each theorem names them. -/
import Derived.Test.YthabnffmlgppdaaTa
import Derived.Test.YthabnffmlgppdaaRg
import Derived.Test.YthabnffmlgppdaaPm
namespace Go.Proofs.Ythabnffmlgppdaa.Pa
open Go.RowKit Ap Mi Nw Rg Hm Tm Tn Ta Pm
open Hw (sum_any hindex_any)

/-- The cells of a table as values. -/
def pc : List (Cell Key) → List Value
  | [] => []
  | o :: r => sV (ck o) :: .int .i64 (cn o : Int) :: pc r
theorem pc_len : ∀ c : List (Cell Key), (pc c).length = c.length * 2
  | [] => rfl
  | o :: r => by have := pc_len r; simp [pc, this]; omega
theorem pc_get : ∀ (c : List (Cell Key)) (i : Nat) (hi : i < c.length), (pc c)[i * 2]? = some (.string ⟨(ck c[i]).toArray⟩) ∧ (pc c)[i * 2 + 1]? = some (.int .i64 (cn c[i] : Int))
  | [], _, hi => by simp at hi
  | o :: r, 0, _ => ⟨rfl, rfl⟩
  | o :: r, i + 1, hi => by
    have := pc_get r i (by simpa using hi)
    rw [show (i + 1) * 2 = i * 2 + 1 + 1 from by omega]
    simp only [pc, List.getElem?_cons_succ, List.getElem_cons_succ]
    exact this
theorem pc_set : ∀ (c : List (Cell Key)) (i : Nat) (o : Cell Key), ((pc c).set (i * 2) (.string ⟨(ck o).toArray⟩)).set (i * 2 + 1) (.int .i64 (cn o : Int)) = pc (c.set i o)
  | [], _, _ => rfl
  | a :: r, 0, o => rfl
  | a :: r, i + 1, o => by
    have := pc_set r i o
    rw [show (i + 1) * 2 = i * 2 + 1 + 1 from by omega]
    simp only [pc, List.set_cons_succ]
    rw [this]
theorem pc_one : ∀ c : List (Cell Key), ∀ u ∈ pc c, u.oneCell' = true
  | [], _, h => by simp [pc] at h
  | o :: r, u, h => by
    simp only [pc, List.mem_cons] at h
    rcases h with rfl | rfl | h
    · rfl
    · rfl
    · exact pc_one r u h
theorem pc_none : ∀ n : Nat, pc (List.replicate n none) = (List.replicate n [Value.string ⟨#[]⟩, .int .i64 0]).flatten
  | 0 => rfl
  | n + 1 => by rw [List.replicate_succ, List.replicate_succ, List.flatten_cons, pc, pc_none n]; rfl

/-- The table in block g: its seed, its counter, its cells. It and what it holds lie in F. -/
structure Pl (F : Nat → Prop) (w : World) (g : Nat) (seed m : Int) (c : List (Cell Key)) : Prop where
  has : ∃ A cap, Blk w g #[.int .u64 seed, .slice A c.length cap, .int .i64 m] 51 ∧ F g ∧ Mine 0 2 w A c.length cap (pc c) ∧ ∀ a, A = some a → F a.block ∧ a.block ≠ g
  kys : Kys c
  sd : U64 seed
  pw : Pw c.length
  lim : c.length ≤ 1000000
section
variable {F F' : Nat → Prop} {w w' : World} {g : Nat} {seed m : Int} {c : List (Cell Key)}
theorem Pl.lt (h : Pl F w g seed m c) : g < w.heap.size := by
  obtain ⟨A, cap, h1, _⟩ := h.has
  exact h1.lt
theorem Pl.inF (h : Pl F w g seed m c) : F g := by
  obtain ⟨A, cap, _, h1, _⟩ := h.has
  exact h1
theorem Pl.mono (h : Pl F w g seed m c) (hFG : ∀ j, j < w.heap.size → F j → F' j) : Pl F' w g seed m c := by
  have hl := h.lt
  obtain ⟨⟨A, cap, h1, h2, h3, h4⟩, h5, h6, h7, h8⟩ := h
  exact ⟨⟨A, cap, h1, hFG _ hl h2, h3, fun a ha => ⟨hFG _ (h3.base ha).2.1 (h4 a ha).1, (h4 a ha).2⟩⟩, h5, h6, h7, h8⟩
theorem Pl.tight (h : Pl F w g seed m c) : Pl (fun j => F j ∧ j < w.heap.size) w g seed m c := h.mono fun _ hj hf => ⟨hf, hj⟩
theorem Pl.only (h : Pl F w g seed m c) (ho : Only F' w w') (hn : ∀ j, F j → ¬ F' j) : Pl F w' g seed m c := by
  obtain ⟨⟨A, cap, h1, h2, h3, h4⟩, h5, h6, h7, h8⟩ := h
  exact ⟨⟨A, cap, h1.only ho (hn g h2), h2, h3.only ho (fun a ha => hn _ (h4 a ha).1), h4⟩, h5, h6, h7, h8⟩
theorem Pl.below {B : Nat} (h : Pl F w g seed m c) (hb : Below B w w') (hB : w.heap.size ≤ B) : Pl F w' g seed m c :=
  h.only (Only.of_below hb hB (fun _ => False)) (fun _ _ hf => hf)
theorem Pl.drewN (h : Pl F w g seed m c) (n : Nat) : Pl F (w.drewN n) g seed m c := h.only ((Only.refl (fun _ => False) w).drewN n) (fun _ _ hf => hf)
/-- A cell. -/
theorem Pl.slot (h : Pl F w g seed m c) {i : Nat} {o : Cell Key} (hi : c[i]? = some o) :
    ∃ gA oA cap, Blk w g #[.int .u64 seed, .slice (some ⟨gA, oA, none⟩) c.length cap, .int .i64 m] 51 ∧ gA < w.heap.size ∧ F gA ∧ gA ≠ g ∧
      w.cell? ⟨gA, oA + i * 2, none⟩ = some (.string ⟨(ck o).toArray⟩) ∧ w.cell? ⟨gA, oA + i * 2 + 1, none⟩ = some (.int .i64 (cn o : Int)) ∧ w.frozen? ⟨gA, oA + i * 2, none⟩ = false ∧ w.frozen? ⟨gA, oA + i * 2 + 1, none⟩ = false ∧
      Mine 0 2 w (some ⟨gA, oA, none⟩) c.length cap (pc c) := by
  obtain ⟨A, cap, h1, _, h3, h4⟩ := h.has
  obtain ⟨hl, rfl⟩ := List.getElem?_eq_some_iff.1 hi
  obtain ⟨e0, e1⟩ := pc_get c i hl
  obtain ⟨gA, oA, rfl, _, hgA⟩ := mine_place h3 (by rw [pc_len]; omega)
  have k0 := mine_cell h3 e0
  have k1 := mine_cell h3 e1
  rw [← Nat.add_assoc] at k1
  exact ⟨gA, oA, cap, h1, hgA, (h4 _ rfl).1, (h4 _ rfl).2, k0.1, k1.1, k0.2, k1.2, h3⟩
theorem get_of {c : List (Cell Key)} {i : Nat} (hi : i < c.length) : ∃ o, c[i]? = some o ∧ c.getD i none = o := ⟨c[i], List.getElem?_eq_getElem hi, getD_lt hi⟩

set_option maxRecDepth 100000 in
set_option maxHeartbeats 400000 in
theorem round_any (h : Pl F w g seed m c) (x : Int) (r : Nat) (hr : x % (c.length : Int) = (r : Int)) :
    Calls Try.prog 58 #[.pointer (some ⟨g, 0, none⟩), .int .i64 x] w fun e w' => e = .returned (.int .i64 (r : Int)) ∧ w = w' := by
  obtain ⟨A, cap, h1, _⟩ := h.has
  obtain ⟨c0, c1, c2, _⟩ := h1.three
  have hp := h.pw.pos
  have hl := h.lim
  have HM := Lib.hid (h.pw.mask x)
  have HR := Lib.hid hr
  clear h h1 hr
  go_enter Try.func58, Try.ntmps58
  go_wp2_with fail
  go_ret
  exact ⟨retI (HM.out.trans HR.out), rfl⟩
set_option maxRecDepth 100000 in
set_option maxHeartbeats 400000 in
theorem next_any (h : Pl F w g seed m c) {i : Nat} (hi : i < c.length) :
    Calls Try.prog 53 #[.pointer (some ⟨g, 0, none⟩), .int .i64 (i : Int)] w fun e w' => e = .returned (.int .i64 (pos c.length i 1 : Nat)) ∧ w = w' := by
  have hl := h.lim
  have HR := Lib.hid (round_any h ((i : Int) + 1) _ (next_mod hi))
  clear h
  go_enter Try.func53, Try.ntmps53
  go_wp2_with fail
  refine HR.out.mono ?_
  rintro e w1 ⟨rfl, rfl⟩
  go_wp2_with fail
  go_ret
  exact ⟨rfl, rfl⟩
set_option maxRecDepth 100000 in
set_option maxHeartbeats 400000 in
theorem pway_any (h : Pl F w g seed m c) {a b : Nat} (ha : a < c.length) (hb : b < c.length) :
    Calls Try.prog 54 #[.pointer (some ⟨g, 0, none⟩), .int .i64 (a : Int), .int .i64 (b : Int)] w fun e w' => e = .returned (.int .i64 (way c.length a b : Nat)) ∧ w = w' := by
  have hl := h.lim
  have HR := Lib.hid (round_any h ((b : Int) - (a : Int)) _ (back_mod ha hb))
  clear h
  go_enter Try.func54, Try.ntmps54
  go_wp2_with fail
  refine HR.out.mono ?_
  rintro e w1 ⟨rfl, rfl⟩
  go_wp2_with fail
  go_ret
  exact ⟨rfl, rfl⟩
set_option maxRecDepth 100000 in
set_option maxHeartbeats 400000 in
theorem usable_any (h : Pl F w g seed m c) :
    Calls Try.prog 44 #[.pointer (some ⟨g, 0, none⟩)] w fun e w' => e = .returned (.bool true) ∧ w = w' := by
  obtain ⟨A, cap, h1, _⟩ := h.has
  obtain ⟨c0, c1, c2, _⟩ := h1.three
  have hp := h.pw.pos
  have hp1 : (0 : Int) < (c.length : Int) := by omega
  have hl := h.lim
  clear h h1
  go_enter Try.func44, Try.ntmps44
  go_wp2_with fail
  go_ret
  exact ⟨retB (by simp), rfl⟩
set_option maxRecDepth 100000 in
set_option maxHeartbeats 400000 in
theorem phome_any (h : Pl F w g seed m c) (k : Key) (hk : k.length ≤ 1000000) :
    Calls Try.prog 55 #[.pointer (some ⟨g, 0, none⟩), .string ⟨k.toArray⟩] w fun e w' => e = .returned (.int .i64 (hom seed c.length k : Int)) ∧ Below w.heap.size w w' := by
  obtain ⟨A, cap, h1, _⟩ := h.has
  obtain ⟨c0, c1, c2, _⟩ := h1.three
  have hp := h.pw.pos
  have hl := h.lim
  have hsz : (⟨k.toArray⟩ : ByteArray).size ≤ maxLen := by show k.toArray.size ≤ maxLen; unfold maxLen; simp; omega
  have hsd := h.sd
  have HS : Hid (∀ W, Calls Try.prog 28 #[.int .u64 seed, .string ⟨k.toArray⟩] W fun e w' => e = .returned (.int .u64 (mixI (sumL seed k))) ∧ w' = W) := fun W => (sum_any seed ⟨k.toArray⟩ W hsd hsz).mono fun _ _ h => ⟨h.1, h.2.symm⟩
  have hI : idxI (mixI (sumL seed k)) (c.length : Int) = (hom seed c.length k : Int) := by rw [idxI, if_pos h.pw.isPow]; exact hom_cast seed hp k
  have HX : Hid (∀ W, Calls Try.prog 27 #[.int .u64 (mixI (sumL seed k)), .int .i64 (c.length : Int)] W fun e w' => e = .returned (.tuple #[.int .i64 (hom seed c.length k : Int), .int .i64 (idxE (c.length : Int))]) ∧ w' = W) := fun W => (hindex_any (mixI (sumL seed k)) (c.length : Int) W (mix_bd _) (by omega) (by omega)).mono fun _ _ h => ⟨by rw [h.1, hI], h.2.symm⟩
  obtain ⟨x, hx⟩ : ∃ x, x = mixI (sumL seed k) := ⟨_, rfl⟩
  obtain ⟨y, hy⟩ : ∃ y, y = hom seed c.length k := ⟨_, rfl⟩
  obtain ⟨z, hz⟩ : ∃ z, z = idxE (c.length : Int) := ⟨_, rfl⟩
  rw [← hx] at HS HX
  rw [← hy, ← hz] at HX
  rw [← hy]
  have hlt := hom_lt seed _ hp k
  rw [← hy] at hlt
  clear h h1 hx hy hz hsz hI hsd
  go_enter Try.func55, Try.ntmps55
  go_wp2_with fail
  go_quiet ((first | (go_at_call 28; exact Calls.quiet_of_same (HS.out _)) | (go_at_call 27; exact Calls.quiet_of_same (HX.out _))))
  go_wp2_with fail
  go_ret
  exact ⟨rfl, ((Only.of_below (Below.refl w.heap.size w) (Nat.le_refl _) (fun _ => False)).drewN _).below (fun _ hf => hf.elim) (Nat.le_refl _)⟩
end
end Go.Proofs.Ythabnffmlgppdaa.Pa
