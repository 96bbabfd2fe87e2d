/- Proves what slices.Grow at nil and slices.Concat return, at slices of bytes: a row of the call's own that holds all the bytes in their order. Conditions: few bytes. -/
import Derived.Test.YthlfahblnpijaaaDoorVa
import Derived.Lib.AppendZerosOnto
namespace Go.Proofs.YthlfahblnpijaaaDoor.Fc
open Go.RowKit Vm Ap Vw Va

/-- A slice of bytes as it stands in memory. -/
structure Sl where
  A : Option Addr
  l : Bs
  c : Nat
/-- The slice at Z reads as these slices. -/
def Rs (w : World) (Z : Option Addr) (ls : List Sl) : Prop :=
  0 < ls.length → ∃ b o, Z = some ⟨b, o, none⟩ ∧ b < w.heap.size ∧ ∀ j (h : j < ls.length), w.cell? ⟨b, o + j, none⟩ = some (.slice ls[j].A ls[j].l.length ls[j].c)
def flat (ls : List Sl) : Bs := ls.flatMap (·.l)
theorem flat_take {ls : List Sl} {k : Nat} (h : k < ls.length) : flat (ls.take (k + 1)) = flat (ls.take k) ++ ls[k].l := by
  unfold flat; rw [List.take_succ_eq_append_getElem h, List.flatMap_append]; simp
theorem flat_le (ls : List Sl) (k : Nat) : (flat (ls.take k)).length ≤ (flat ls).length := by
  have e : flat ls = flat (ls.take k) ++ flat (ls.drop k) := by unfold flat; rw [← List.flatMap_append, List.take_append_drop]
  rw [e, List.length_append]; omega
/-- What each of the slices gives. -/
def Each (w : World) (ls : List Sl) : Prop := ∀ x ∈ ls, Rb w x.A x.l ∧ (x.A = none → x.c = 0)

set_option maxRecDepth 100000 in
set_option maxHeartbeats 1000000 in
theorem grow_nil (n : Nat) (w : World) (h : n ≤ 1000000000) : Calls Tryd.prog 27 #[.slice none 0 0, .int .i64 (n : Int)] w (bytesPost w []) := by
  by_cases h0 : n = 0
  · subst h0
    go_enter Tryd.func27, Tryd.ntmps27
    go_wp2_with fail
    go_ret
    exact ⟨_, rfl, own_nil _ _, Below.refl _ _⟩
  · have hi := elB.info
    rw [Option.map_eq_some_iff] at hi
    obtain ⟨i, hi1, hi2⟩ := hi
    simp only [Prod.mk.injEq] at hi2
    have hb := elB.small i hi1
    have hmul : n * i.bytes ≤ 1000000000 * 1024 := Nat.mul_le_mul h hb
    have hrz : ∀ ty, (Builtin.append_ #[29, 3] ty #[.slice none 0 0, .int .i64 (n : Int)]).run Tryd.prog w =
        .ok (.slice (some ⟨w.heap.size, 0, none⟩) n (grownCap w n 0 5)) (w.drew.alloc (.cells (#[] ++ Builtin.zeroCells (Value.int .u8 0).cells n ++ Builtin.zeroCells (Value.int .u8 0).cells (grownCap w n 0 5 - n)) 5)) := fun ty => by
      have h := Lib.run_append_grow_zeros w 29 3 ty 5 i (.int .u8 0) .i64 .i64 Tryd.underlying29 Tryd.underlying3 hi1 hi2.1 none 0 0 [] (run_firstCells_none w.drew i.size 0 0 0) n (by omega) (by omega) (by omega) (by omega) (by omega)
        (by simpa using growslice_fits (need := n) (by omega) (by omega))
      simpa using h
    have hG1 : n ≤ grownCap w n 0 5 := grownCap_ge w _ _ _
    have hG2 := grownCap_le_maxLen w n 0 5 (by unfold maxLen; omega)
    have hG3 : grownCap w n 0 5 ≤ 9223372036854775807 := by unfold maxLen at hG2; exact hG2
    have HOWN : Hid (Own w.heap.size (w.drew.alloc (.cells (#[] ++ Builtin.zeroCells (Value.int .u8 0).cells n ++ Builtin.zeroCells (Value.int .u8 0).cells (grownCap w n 0 5 - n)) 5)) (.slice (some ⟨w.heap.size, 0, none⟩) 0 (grownCap w n 0 5)) []) :=
      ⟨by simp, Or.inr ⟨w.heap.size, _, _, rfl, Nat.le_refl _, heap_alloc_new _ _, Nat.zero_le _, hG2, by rw [Array.size_append, Array.size_append, size_zeroCells, size_zeroCells]; show 0 + n * 1 + _ * 1 = _ * 1; omega, by simp⟩⟩
    have HB : Hid (Below w.heap.size w (w.drew.alloc (.cells (#[] ++ Builtin.zeroCells (Value.int .u8 0).cells n ++ Builtin.zeroCells (Value.int .u8 0).cells (grownCap w n 0 5 - n)) 5))) := ((Below.refl _ _).drew).alloc (Nat.le_refl _) _
    obtain ⟨w1, hw1⟩ : ∃ w1, w1 = w.drew.alloc (.cells (#[] ++ Builtin.zeroCells (Value.int .u8 0).cells n ++ Builtin.zeroCells (Value.int .u8 0).cells (grownCap w n 0 5 - n)) 5) := ⟨_, rfl⟩
    rw [← hw1] at HOWN HB
    rw [← hw1] at hrz
    have hn : (0 : Int) < n := by omega
    generalize grownCap w n 0 5 = G at *
    clear hw1 hi1 hi2 hb hmul hG2 h0
    go_enter Tryd.func27, Tryd.ntmps27
    go_wp2_with (at_builtin; refine Lib.wpList_append_run _ rfl _ _ _ _ rfl _ _ rfl rfl _ _ (hrz _) ?_)
    all_goals (go_ret; exact ⟨_, rfl, HOWN.out, HB.out⟩)

set_option maxRecDepth 100000 in
set_option maxHeartbeats 1000000 in
theorem concat_any (Z : Option Addr) (ls : List Sl) (zc : Nat) (w : World) (hZ : Rs w Z ls) (h1 : Each w ls) (hn : (flat ls).length ≤ 1000000000) (hk : ls.length ≤ 1000000) :
    Calls Tryd.prog 13 #[.slice Z ls.length zc] w (bytesPost w (flat ls)) := by
  have HE := Lib.hid h1; clear h1
  go_enter Tryd.func13, Tryd.ntmps13
  go_wp2_with fail
  go_loop [3, 11] (fun u i => ∃ k : Nat, k ≤ ls.length ∧ i = .int .i64 (k : Int) ∧ u = .int .i64 ((flat (ls.take k)).length : Int)) (fun _ i => ls.length - (intOf i).toNat)
  case atStart => exact ⟨0, Nat.zero_le _, rfl, rfl⟩
  case round =>
    obtain ⟨k, hkl, rfl, rfl⟩ := hrel
    by_cases hlt : k < ls.length
    · obtain ⟨b, o, rfl, hb, hc⟩ := hZ (by omega)
      have c0 := hc k hlt
      have HF := Lib.hid (flat_take hlt)
      have hle := flat_le ls (k + 1)
      rw [HF.out, List.length_append] at hle
      have HL : Hid ((flat (ls.take (k + 1))).length = (flat (ls.take k)).length + ls[k].l.length) := by show _ = _; rw [HF.out, List.length_append]
      generalize (flat (ls.take k)).length = s at *
      have i1 : (k : Int) < ls.length := by omega
      clear hc
      go_wp2_with fail
      go_round
      case rel => exact ⟨k + 1, by omega, by go_num, by rw [HL.out]; go_num⟩
      case measure => simp [intOf]; omega
    · obtain rfl : k = ls.length := by omega
      have HT : Hid (ls.take ls.length = ls) := List.take_length
      have hs : (flat (ls.take ls.length)).length ≤ 1000000000 := by rw [HT.out]; exact hn
      have hnn : ¬ (ls.length : Int) < ls.length := by omega
      generalize (flat (ls.take ls.length)).length = s at *
      go_wp2_with fail
      refine (grow_nil s w hs).mono ?_
      rintro e w1 ⟨v1, rfl, h1, b1⟩
      have H1 := Lib.hid h1; have B1 := Lib.hid b1
      clear h1 b1
      go_wp2_with fail
      go_loopw [6, 27] (fun u i wr => ∃ k : Nat, k ≤ ls.length ∧ i = .int .i64 (k : Int) ∧ Own w.heap.size wr u (flat (ls.take k)) ∧ Below w.heap.size w wr) (fun _ i _ => ls.length - (intOf i).toNat)
      case atStart => exact ⟨0, Nat.zero_le _, rfl, H1.out, B1.out⟩
      case round =>
        obtain ⟨k, hkl, rfl, hown, hbw⟩ := hrel
        have HO := Lib.hid hown
        have HB := Lib.hid hbw
        have hz := hbw.size
        clear hown
        by_cases hlt : k < ls.length
        · obtain ⟨b, o, rfl, hb, hc⟩ := hZ (by omega)
          have c0 := hc k hlt
          rw [← hbw.cell (p := ⟨b, o + k, none⟩) hb] at c0
          have HF := Lib.hid (flat_take hlt)
          have hle := flat_le ls (k + 1)
          rw [HF.out, List.length_append] at hle
          obtain ⟨r1, r2⟩ := HE.out _ (List.getElem_mem hlt)
          obtain ⟨x, hx⟩ : ∃ x, x = ls[k] := ⟨_, rfl⟩
          rw [← hx] at c0 HF hle r1 r2
          have R1 := Lib.hid (r1.below hbw (Nat.le_refl _)); have R2 := Lib.hid r2
          have i1 : (k : Int) < ls.length := by omega
          have hl1 : (flat (ls.take k)).length ≤ 1000000000 := by omega
          have hl2 : x.l.length ≤ 1000000000 := by omega
          clear hc hx r1 r2 hbw hle
          go_wp2_with (at_builtin; (refine wpList_from rfl _ _ rfl rfl HO.out x.l x.A x.c rfl R2.out R1.out hl1 hl2 hz ?_))
          intro v2 w2 h2 g2
          have H2 : Hid (Own w.heap.size w2 v2 (flat (ls.take (k + 1)))) := by show Own _ _ _ _; rw [HF.out]; exact h2
          have B2 := Lib.hid (HB.out.grown g2 hz (fun j e => (World.ownsRow.lt HO.out j e).1))
          clear h2 g2
          go_wp2_with fail
          go_roundw
          case rel => exact ⟨k + 1, by omega, by go_num, H2.out, B2.out⟩
          case measure => simp [intOf]; omega
        · obtain rfl : k = ls.length := by omega
          have hnn : ¬ (ls.length : Int) < ls.length := by omega
          clear hbw
          go_wp2_with fail
          go_ret
          exact ⟨_, rfl, by have := HO.out; rwa [HT.out] at this, HB.out⟩
end Go.Proofs.YthlfahblnpijaaaDoor.Fc
