/- Proves what the rows of package decode's laws give the walks: lists of calls, opened; what the law's count of them returns; and words for a decoder beside the specification's one. Conditions: as each theorem names them. -/
import Derived.Test.YtmphielkohnpgaaDg
namespace Go.Proofs.Ytmphielkohnpgaa.Dq
open Go.ChangeShapes Go.WideShapes Go.ChangeAt Go.RowKit Go.Joins Vm Ap Vw Va Ve Gc Fm Fw Mi Mb Fr Dm Dd Dn De Dh Dl Fo

theorem cellsI : Try.prog.cellsOf 3 = 1 := by kernel_rfl
theorem cellsA : Try.prog.cellsOf 35 = 2 := by kernel_rfl
/-- A call: which one, and bytes. -/
structure Ac where
  n : Int
  A : Option Addr
  k : Nat
  p : Bs
def Ra (w : World) (A : Option Addr) (l : List Ac) : Prop :=
  0 < l.length → ∃ b o, A = some ⟨b, o, none⟩ ∧ b < w.heap.size ∧ ∀ j (h : j < l.length), w.cell? ⟨b, o + j * 2, none⟩ = some (.int .i64 l[j].n) ∧ w.cell? ⟨b, o + j * 2 + 1, none⟩ = some (.slice l[j].A l[j].p.length l[j].k)
/-- What an argument of calls gives. -/
structure Acts (W : World) (A : Option Addr) (l : List Ac) (c : Nat) : Prop where
  rd : Ra W A l
  le : l.length ≤ c
  max : c ≤ maxLen
  one : ∀ x ∈ l, Arg W x.A x.p x.k
section
variable {H : Type} {enc : TypeId × Value → H} {W : World}
theorem int_of {base fuel : Nat} {spare : Nat → Bool} {held : Bool} {v : Value} {x : DataW H × List MemPlace} (h : DataW.trod enc Try.prog W base spare held fuel 3 [v] = some x) : ∃ n : Int, v = .int .i64 n := by
  obtain ⟨n, hn, _, _⟩ := DataW.trod_int Try.underlying3 h
  injection hn with hn
  exact ⟨n, hn⟩
theorem open_acts {base : Nat} {v : Value} {d : DataW H} {p : List MemPlace} (hval : Value.okWide Try.prog W .any base 22 v)
    (h : DataW.Trod enc Try.prog W 0 (fun _ => true) true 22 v d p) : ∃ (A : Option Addr) (c : Nat) (l : List Ac), v = .slice A l.length c ∧ Acts W A l c := by
  obtain ⟨a0, len, cap, rfl⟩ := okWide_slice Try.underlying22 hval
  obtain ⟨fuel, hf⟩ := h
  have hf' : DataW.trod enc Try.prog W 0 (fun _ => true) true fuel 22 [.slice a0 len cap] = some (d, p) := by simpa [Value.cells] using hf
  rcases Deep.open_slice_pairs Try.underlying22 Try.underlying35 cellsA rfl rfl cellsI cellsS hf' with ⟨hcs, _⟩ | ⟨a, len', cap', m, n, V0, V1, D0, D1, P0, P1, hcs, _, hl, hm, hmm, _, hx⟩
  · injection hcs with hcs
    rw [hcs]
    exact ⟨none, 0, [], rfl, fun h => by simp at h, Nat.le_refl _, Nat.zero_le _, by simp⟩
  · injection hcs with hcs
    simp only [Value.slice.injEq] at hcs
    obtain ⟨rfl, rfl, rfl⟩ := hcs
    simp only [if_true] at hmm
    subst hmm
    have key : ∀ i, i < m → ∃ y : Ac, W.cell? (a.add (i * 2)) = some (.int .i64 y.n) ∧ W.cell? (a.add (i * 2 + 1)) = some (.slice y.A y.p.length y.k) ∧ Arg W y.A y.p y.k := by
      intro i hi
      obtain ⟨c0, c1, t0, t1⟩ := hx i hi
      obtain ⟨n0, e0⟩ := int_of t0
      obtain ⟨A1, k1, p1, e1, g1⟩ := arg_of t1
      exact ⟨⟨n0, A1, k1, p1⟩, by rw [c0, e0], by rw [c1, e1], g1⟩
    let f : Nat → Ac := fun i => if h : i < m then (key i h).choose else ⟨0, none, 0, []⟩
    have hf1 : ∀ i (h : i < m), f i = (key i h).choose := fun i h => by simp only [f, dif_pos h]
    have hlen : ((List.range len).map f).length = len := by simp
    refine ⟨some a, m, (List.range len).map f, by rw [hlen], ?_, by rw [hlen]; exact hl, hm, ?_⟩
    · intro h0
      rw [hlen] at h0
      obtain ⟨b, off, spot⟩ := a
      have hspot : spot = none := by simpa [Addr.add] using World.cell?_spot (key 0 (by omega)).choose_spec.1
      subst hspot
      have hlt : b < W.heap.size := by
        have := World.block_lt_of_cell? W _ (key 0 (by omega)).choose_spec.1
        rwa [Vw.add_plain] at this
      refine ⟨b, off, rfl, hlt, fun j hj => ?_⟩
      rw [hlen] at hj
      have hj' : j < m := by omega
      have hs := (key j hj').choose_spec
      simp only [List.getElem_map, List.getElem_range, hf1 j hj']
      exact ⟨by rw [← Vw.add_plain b off (j * 2)]; exact hs.1, by rw [Nat.add_assoc, ← Vw.add_plain b off (j * 2 + 1)]; exact hs.2.1⟩
    · intro x hxm
      obtain ⟨i, hi, rfl⟩ := List.mem_map.1 hxm
      have hi' : i < m := by have := List.mem_range.1 hi; omega
      rw [hf1 i hi']
      exact (key i hi').choose_spec.2.2
end
/-- What the count of the calls leaves. -/
def fewPost (w : World) (l : List Ac) : Ending → World → Prop := fun e w' => w = w' ∧ (e = .returned (.bool false) ∨ (e = .returned (.bool true) ∧ l.length ≤ 60 ∧ ∀ x ∈ l, x.p.length ≤ 300))
set_option maxRecDepth 100000 in
set_option maxHeartbeats 1000000 in
theorem few_any (D : Option Addr) (l : List Ac) (d : Nat) (w : World) (ha : Acts w D l d) :
    Calls Try.prog 8 #[.slice D l.length d] w (fewPost w l) := by
  have HD := Lib.hid ha.rd
  have HONE := Lib.hid ha.one
  have hdm := ha.max
  have hdl := ha.le
  unfold maxLen at hdm
  clear ha
  go_enter Try.func8, Try.ntmps8
  go_wp2_with fail
  go_loopw [3] (fun i wr => ∃ k : Nat, k ≤ l.length ∧ k ≤ 61 ∧ i = .int .i64 (k : Int) ∧ w = wr ∧ ∀ x ∈ l.take k, x.p.length ≤ 300) (fun i _ => l.length - (intOf i).toNat)
  case atStart => exact ⟨0, Nat.zero_le _, by omega, rfl, rfl, by simp⟩
  case round =>
    obtain ⟨k, hk, hk61, rfl, rfl, hall⟩ := hrel
    have HALL := Lib.hid hall
    clear hall
    by_cases hkl : k < l.length ∧ k < 61
    · obtain ⟨hkl1, hkl2⟩ := hkl
      obtain ⟨tb, to_, rfl, htb, hcells⟩ := HD.out (by omega)
      obtain ⟨c0, c1⟩ := hcells k hkl1
      have hxa := HONE.out _ (List.getElem_mem hkl1)
      obtain ⟨x, hx⟩ : ∃ x, x = l[k] := ⟨_, rfl⟩
      rw [← hx] at c0 c1 hxa
      have HX := Lib.hid hx
      have hxl := Nat.le_trans hxa.le hxa.max
      unfold maxLen at hxl
      have i1 : (k : Int) < l.length := by omega
      have i2 : (k : Int) < 61 := by omega
      clear hx hcells hxa
      by_cases h300 : 300 < x.p.length
      · have i3 : (300 : Int) < (x.p.length : Int) := by omega
        clear h300
        go_wp2_with fail
        go_ret
        exact ⟨rfl, Or.inl rfl⟩
      · have i3 : (x.p.length : Int) ≤ 300 := by omega
        have HX3 : Hid (∀ y ∈ l.take (k + 1), y.p.length ≤ 300) := by
          show ∀ y ∈ _, _
          rw [List.take_succ_eq_append_getElem hkl1]
          intro y hy
          rcases List.mem_append.1 hy with hy | hy
          · exact HALL.out y hy
          · rw [List.mem_singleton.1 hy, ← HX.out]; omega
        clear h300
        go_wp2_with fail
        go_roundw
        case rel => exact ⟨k + 1, by omega, by omega, by go_num, trivial, HX3.out⟩
        case measure => simp [intOf]; omega
    · by_cases h60 : l.length ≤ 60
      · obtain rfl : k = l.length := by omega
        have hnn : ¬ (l.length : Int) < l.length := by omega
        have i3 : (l.length : Int) ≤ 60 := by omega
        rw [List.take_length] at HALL
        clear hkl
        go_wp2_with fail
        go_ret
        exact ⟨rfl, Or.inr ⟨ret_b (by simp), h60, HALL.out⟩⟩
      · obtain rfl : k = 61 := by omega
        have i3 : ¬ (l.length : Int) ≤ 60 := by omega
        by_cases h61 : 61 < l.length
        · have i4 : (61 : Int) < l.length := by omega
          clear hkl h60
          go_wp2_with fail
          go_ret
          exact ⟨rfl, Or.inl (ret_b (by simp))⟩
        · have i4 : ¬ (61 : Int) < l.length := by omega
          clear hkl h60
          go_wp2_with fail
          go_ret
          exact ⟨rfl, Or.inl (ret_b (by simp))⟩
/-- A decoder in block g, and the specification's one in the variable in block b, in the same state. What the decoder holds, what the variable's value reads, and the variable itself lie apart. -/
structure Both (N : Nat) (W w : World) (F : Nat → Prop) (g b : Nat) (m : Int) (s : St) (A : Option Addr) (c : Nat) : Prop where
  dec : Dec F w g m s
  cel : Cel3 w b (.int .i64 m) (.slice A s.held.length c) (.bool s.shut)
  arg : Arg w A s.held c
  fl : ∀ j, F j → N ≤ j ∧ j < w.heap.size
  bF : ¬ F b
  bN : N ≤ b
  aF : ∀ a, A = some a → ¬ F a.block ∧ a.block ≠ b ∧ N ≤ a.block ∧ a.block < w.heap.size
  bel : Below N W w
  nN : N ≤ w.heap.size
theorem Both.only {N : Nat} {W w w' : World} {F G : Nat → Prop} {g b : Nat} {m : Int} {s : St} {A : Option Addr} {c : Nat} (h : Both N W w F g b m s A c) (ho : Only G w w') (hG : ∀ j, j < w.heap.size → G j → N ≤ j ∧ ¬ F j ∧ j ≠ b ∧ ∀ a, A = some a → a.block ≠ j) : Both N W w' F g b m s A c := by
  have ho' : Only (fun j => G j ∧ j < w.heap.size) w w' := ⟨ho.os, ho.tape, ho.output, ho.size, fun j hj hn => ho.block j hj (fun hg => hn ⟨hg, hj⟩)⟩
  exact ⟨h.dec.only ho' (fun j hf hg => (hG j hg.2 hg.1).2.1 hf), h.cel.only ho' (fun hg => (hG b hg.2 hg.1).2.2.1 rfl), arg_only h.arg ho' (fun a ha hg => (hG _ hg.2 hg.1).2.2.2 a ha rfl), fun j hf => ⟨(h.fl j hf).1, Nat.lt_of_lt_of_le (h.fl j hf).2 ho.size⟩, h.bF, h.bN,
    fun a ha => ⟨(h.aF a ha).1, (h.aF a ha).2.1, (h.aF a ha).2.2.1, Nat.lt_of_lt_of_le (h.aF a ha).2.2.2 ho.size⟩, h.bel.trans (ho'.below (fun j hg => (hG j hg.2 hg.1).1) h.nN), Nat.le_trans h.nN ho.size⟩
theorem Both.below {N : Nat} {W w w' : World} {F : Nat → Prop} {g b : Nat} {m : Int} {s : St} {A : Option Addr} {c : Nat} (h : Both N W w F g b m s A c) {B : Nat} (hb : Below B w w') (hB : w.heap.size ≤ B) : Both N W w' F g b m s A c :=
  h.only (Only.of_below hb hB (fun _ => False)) (fun _ _ hf => hf.elim)
end Go.Proofs.Ytmphielkohnpgaa.Dq
