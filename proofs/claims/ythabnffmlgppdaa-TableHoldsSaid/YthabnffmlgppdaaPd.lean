/- Proves what the methods resize and empty of a table do. Conditions: as each theorem names them. -/
import Derived.Test.YthabnffmlgppdaaPc
import Derived.Test.YthabnffmlgppdaaTh
namespace Go.Proofs.Ythabnffmlgppdaa.Pd
open Go.RowKit Ap Mi Nw Rg Hm Tm Tn Ta Pm Pa Pb Pc
open Te (fill_snoc fill_at)
open Th (hole_go hole_stop)
open Td (len_none)

/-- A key whose cell comes later is not yet there. -/
theorem fill_no {h0 h : Key → Nat} {c : List (Cell Key)} (t : Tab h0 c) {n : Nat} (hh : ∀ k, h k < n) (hn : cnt c ≤ n) {K : Nat} {k : Key} {x : Nat} (hK : c[K]? = some (some (k, x))) : ∀ y, some (k, y) ∉ fillC h (c.take K) (List.replicate n none) := fun y hm => by
  have hap : Apart (c.take K) := (tab_apart t).sublist (List.take_sublist _ _)
  have hcl : cnt (c.take K) ≤ cnt c := (List.take_sublist _ _).countP_le
  obtain ⟨_, _, _, f4⟩ := fill_tab (c.take K) _ (tab_empty hh) hap (fun k x y _ hm => by have := List.eq_of_mem_replicate hm; cases this) (by rw [cnt_none, len_none]; omega)
  rcases (f4 _).1 hm with h1 | h1
  · obtain ⟨i, hi⟩ := List.mem_iff_getElem?.1 h1
    have hil := lt_of_some hi
    rw [List.length_take] at hil
    rw [List.getElem?_take, if_pos (by omega)] at hi
    have := t.one i K k y x hi hK
    omega
  · have := List.eq_of_mem_replicate h1; cases this
/-- A cell of a row that is read. -/
theorem old_slot {w : World} {A : Option Addr} {n cap : Nat} {c : List (Cell Key)} (h : Rs w 2 A n cap (pc c)) {i : Nat} {o : Cell Key} (hi : c[i]? = some o) :
    ∃ b of, A = some ⟨b, of, none⟩ ∧ b < w.heap.size ∧ w.cell? ⟨b, of + i * 2, none⟩ = some (.string ⟨(ck o).toArray⟩) ∧ w.cell? ⟨b, of + i * 2 + 1, none⟩ = some (.int .i64 (cn o : Int)) := by
  obtain ⟨hl, rfl⟩ := List.getElem?_eq_some_iff.1 hi
  obtain ⟨e0, e1⟩ := pc_get c i hl
  obtain ⟨b, of, rfl, hb, k0⟩ := h.rd.at_ e0
  obtain ⟨b', of', e, _, k1⟩ := h.rd.at_ e1
  injection e with e
  injection e with e2 e3
  subst e2; subst e3
  rw [← Nat.add_assoc] at k1
  exact ⟨b, of, rfl, hb, k0, k1⟩
section
variable {F F' : Nat → Prop} {w w' : World} {g : Nat} {seed m : Int} {c : List (Cell Key)}
/-- What resize leaves. -/
def sizePost (F : Nat → Prop) (w : World) (g : Nat) (seed m : Int) (c' : List (Cell Key)) : Ending → World → Prop := fun q w' =>
  q = .returned (.tuple #[]) ∧ Pl (More F w) w' g seed m c' ∧ Only F w w'
set_option maxRecDepth 100000 in
set_option maxHeartbeats 1000000 in
theorem resize_any {h0 : Key → Nat} (h : Pl F w g seed m c) (t : Tab h0 c) (n : Nat) (hp : Pw n) (hn : n ≤ 1000000) (hcn : cnt c ≤ n) :
    Calls Try.prog 37 #[.pointer (some ⟨g, 0, none⟩), .int .i64 (n : Int)] w (sizePost F w g seed m (sizeC (hom seed n) n c)) := by
  unfold sizePost sizeC
  have MK : ∀ W : World, (Instr.makeSlice 49 (.int .i64 (n : Int)) (.int .i64 (n : Int))).run Try.prog W = .ok (.slice (some ⟨W.heap.size, 0, none⟩) n n) (W.alloc (.cells (zC n) 79)) := fun W => make_cells n W (by omega)
  obtain ⟨A, cap, hB, hF, hM, hA⟩ := h.has
  obtain ⟨c0, c1, c2, f0, f1, f2⟩ := hB.three
  have lg := h.lt
  have hpn := hp.pos
  have hlim := h.lim
  have HY := Lib.hid h.kys; have HT := Lib.hid t; have HSD := Lib.hid h.sd; have HPW := Lib.hid hp; have HF := Lib.hid hF
  obtain ⟨N, hN⟩ : ∃ N, N = w.heap.size := ⟨_, rfl⟩
  obtain ⟨v0, hv0⟩ : ∃ v0, v0 = w.setCell ⟨g, 1, none⟩ (.slice (some ⟨N, 0, none⟩) n n) := ⟨_, rfl⟩
  obtain ⟨v1, hv1⟩ : ∃ v1, v1 = v0.alloc (.cells (zC n) 79) := ⟨_, rfl⟩
  have hz0 : v0.heap.size = N := by rw [hv0, hN]; simp
  have bA : Below v0.heap.size v0 v1 := by rw [hv1]; exact bnew v0 _
  have o0 : Only (fun j => j = g) w v0 := by rw [hv0]; exact (Only.refl (fun j => j = g) w).put (ad := ⟨g, 1, none⟩) rfl _
  have oA : Only (fun j => j = g) w v1 := o0.trans (Only.of_below bA (Nat.le_refl _) _)
  have hB0 : Blk v0 g #[.int .u64 seed, .slice (some ⟨N, 0, none⟩) n n, .int .i64 m] 51 := by rw [hv0]; exact hB.set 1 _
  have P0 : Pl (fun j => j = g ∨ N ≤ j) v1 g seed m (List.replicate n none) := by
    refine ⟨⟨some ⟨N, 0, none⟩, n, ?_, Or.inl rfl, ?_, fun a ha => ?_⟩, kys_none n, h.sd, by rw [len_none]; exact hp, by rw [len_none]; omega⟩
    · rw [len_none]; exact hB0.below bA hB0.lt
    · have := laid_cells n v0 (by omega)
      rw [← hv1, hz0] at this
      rw [len_none]; exact this.mono (Nat.zero_le _)
    · injection ha with ha; subst ha; exact ⟨Or.inr (Nat.le_refl _), by show N ≠ g; omega⟩
  have HP0 := Lib.hid P0
  have HR : Hid (Rs v1 2 A c.length cap (pc c)) := Rs.mine (hM.only oA (fun a ha e => (hA a ha).2 e))
  have HAn : Hid (∀ a, A = some a → a.block ≠ g ∧ a.block < N) := fun a ha => ⟨(hA a ha).2, by rw [hN]; exact (hM.base ha).2.1⟩
  have HO1 : Hid (Only (fun j => j = g ∨ N ≤ j) w v1) := oA.mono fun _ _ e => Or.inl e
  have hz1 : N + 1 ≤ v1.heap.size := by rw [hv1]; simp; omega
  have HN := Lib.hid hN
  clear h t hp hF hM hA hB bA oA o0 P0 hB0 hz0
  go_enter Try.func37, Try.ntmps37
  go_upto_region 2 with (fail)
  rw [← hN]
  rw [← hv0, ← hv1]
  clear hN hv0 hv1 c0 c1 c2 f0 f1 f2
  go_wp2_with fail
  go_loopw [18] (fun i wr => ∃ K : Nat, K ≤ c.length ∧ i = .int .i64 (K : Int) ∧ Pl (fun j => j = g ∨ N ≤ j) wr g seed m (fillC (hom seed n) (c.take K) (List.replicate n none)) ∧ Only (fun j => j = g ∨ N ≤ j) w wr ∧ Only (fun j => j = g ∨ N ≤ j) v1 wr) (fun i _ => c.length - (intOf i).toNat)
  case atStart => exact ⟨0, Nat.zero_le _, rfl, HP0.out, HO1.out, Only.refl _ _⟩
  case round =>
    obtain ⟨K, hK, rfl, hp, ho, ho1⟩ := hrel
    have HP := Lib.hid hp; have HO := Lib.hid ho
    have HRr := Lib.hid (HR.out.only ho1 (fun a ha e => by have := HAn.out a ha; rcases e with e | e <;> omega))
    have HV := Lib.hid ho1
    have hzr := ho1.size
    clear hp ho ho1
    by_cases hlt : K < c.length
    · have i1 : (K : Int) < (c.length : Int) := by omega
      obtain ⟨o, hgo, _⟩ := get_of hlt
      have HG := Lib.hid hgo
      obtain ⟨b, of, rfl, lb, e0, e1⟩ := old_slot HRr.out hgo
      have hcK : c[K] = o := by rw [List.getElem?_eq_getElem hlt] at hgo; exact Option.some.inj hgo
      have HTK : Hid (c.take (K + 1) = c.take K ++ [o]) := by show _ = _; rw [List.take_succ_eq_append_getElem hlt, hcK]
      clear hgo
      cases o with
      | none =>
        have a0 : wr.cell? ⟨b, of + K * 2, none⟩ = some (.string ⟨#[]⟩) := e0
        have a1 : wr.cell? ⟨b, of + K * 2 + 1, none⟩ = some (.int .i64 0) := e1
        have HPn := Lib.hid (HP.out.below (bnew wr (.cells #[.string ⟨#[]⟩, .int .i64 0] 79)) (Nat.le_refl _))
        clear e0 e1 hcK
        go_wp2_with fail
        go_roundw
        case rel => exact ⟨K + 1, by omega, by go_num, by rw [HTK.out, fill_snoc]; exact HPn.out, HO.out.alloc _, HV.out.alloc _⟩
        case measure => simp [intOf]; omega
      | some ky =>
        obtain ⟨k', x⟩ := ky
        have a0 : wr.cell? ⟨b, of + K * 2, none⟩ = some (.string ⟨k'.toArray⟩) := e0
        have a1 : wr.cell? ⟨b, of + K * 2 + 1, none⟩ = some (.int .i64 (x : Int)) := e1
        obtain ⟨hk1, hk2, hx⟩ := HY.out k' x (List.mem_of_getElem? HG.out)
        have hbe : List.isEmpty k' = false := by cases k' with
          | nil => simp at hk1
          | cons _ _ => rfl
        have HPn := Lib.hid (HP.out.below (bnew wr (.cells #[.string ⟨k'.toArray⟩, .int .i64 (x : Int)] 79)) (Nat.le_refl _))
        obtain ⟨q1, q2, q3⟩ := fill_at HT.out (hom_lt seed n hpn) hcn hlt
        have HAD := Lib.hid (add_any HPn.out (q3 _ hcK) k' hk1 hk2 (fill_no HT.out (hom_lt seed n hpn) hcn HG.out) x hx)
        rw [q1] at HAD
        clear e0 e1 hcK q1 q2 q3
        go_wp2_with fail
        refine HAD.out.mono ?_
        rintro e w4 ⟨rfl, hp4, ho4⟩
        have HP4 := Lib.hid hp4; have HO4 := Lib.hid ho4
        clear hp4 ho4
        go_wp2_with fail
        go_roundw
        case rel => exact ⟨K + 1, by omega, by go_num, by rw [HTK.out, fill_snoc]; exact HP4.out, (HO.out.alloc _).trans (HO4.out.mono fun _ _ hf => Or.inl hf), (HV.out.alloc _).trans (HO4.out.mono fun _ _ hf => Or.inl hf)⟩
        case measure => simp [intOf]; omega
    · obtain rfl : K = c.length := by omega
      have hnn : ¬ (c.length : Int) < c.length := by omega
      rw [List.take_length] at HP
      go_wp2_with fail
      go_end0
      refine ⟨rfl, HP.out.mono fun j _ hf => ?_, HO.out.mono fun j hj hf => ?_⟩
      · rcases hf with rfl | hf
        · exact Or.inl HF.out
        · exact Or.inr (by have := HN.out; omega)
      · rcases hf with rfl | hf
        · exact HF.out
        · have := HN.out; omega
end
end Go.Proofs.Ythabnffmlgppdaa.Pd
