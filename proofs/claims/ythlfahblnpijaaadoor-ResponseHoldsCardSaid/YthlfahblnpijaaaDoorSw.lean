/- Proves what the specification's Write returns. Conditions: responses of bounded parts, whose numbers that are written are not negative. -/
import Derived.Test.YthlfahblnpijaaaDoorBa
import Derived.Test.YthlfahblnpijaaaDoorSt
import Derived.Test.YthlfahblnpijaaaDoorSo
namespace Go.Proofs.YthlfahblnpijaaaDoor.Vr
open Go.RowKit Vm Ap Vw Va

theorem lit_one (w : World) (n : Nat) (h : n < 256) : Own w.heap.size (w.alloc (.cells #[.int .u8 (n : Int)] 5)) (.slice (some ⟨w.heap.size, 0, none⟩) 1 1) [UInt8.ofNat n] := by
  have := own_lit w [UInt8.ofNat n] (by simp)
  rw [cells_one n h] at this
  exact this

end Go.Proofs.YthlfahblnpijaaaDoor.Vr
namespace Go.Proofs.YthlfahblnpijaaaDoor.Vrb
open Go.RowKit Vm Ap Vw Va Vr

end Go.Proofs.YthlfahblnpijaaaDoor.Vrb
namespace Go.Proofs.YthlfahblnpijaaaDoor.Su
open Go.RowKit Vm Ap Vw Va Gc Mi Mb Qm Sm Se St

def onlyPost (w : World) (x : Res) : Ending → World → Prop := fun e w' => ∃ y, e = .returned (resV y) ∧ y.r = onlyR x.r ∧ RRc w' y ∧ BndS y ∧ Below w.heap.size w w'
theorem bnd_start (x : Res) (h : BndS x) : BndS (startS x.op x.err) := ⟨h.op1, h.op2, h.err1, h.err2, by simp [startS], by simp [startS], by simp [startS], by simp [startS], by simp [startS], (fun y hy => by cases hy), (fun n hn => by cases hn)⟩
end Go.Proofs.YthlfahblnpijaaaDoor.Su
namespace Go.Proofs.YthlfahblnpijaaaDoor.Sw
open Go.RowKit Vm Ap Vw Va Vr Vrb Gc Mi Mb Qm Sm Se So St Su

/-- The bytes of the first items, and of the first numbers. -/
def pI (x : Res) (k : Nat) : Bs := (x.items.take k).flatMap (fun y => encI y.i)
def pN (x : Res) (k : Nat) : Bs := (x.numbers.take k).flatMap encN
theorem pI_zero (x : Res) : pI x 0 = [] := rfl
theorem pN_zero (x : Res) : pN x 0 = [] := rfl
theorem pI_succ (x : Res) {k : Nat} (h : k < x.items.length) : pI x (k + 1) = pI x k ++ encI x.items[k].i := by
  unfold pI; rw [List.take_succ_eq_append_getElem h, List.flatMap_append]; simp
theorem pN_succ (x : Res) {k : Nat} (h : k < x.numbers.length) : pN x (k + 1) = pN x k ++ encN x.numbers[k] := by
  unfold pN; rw [List.take_succ_eq_append_getElem h, List.flatMap_append]; simp
theorem pI_all (x : Res) : pI x x.items.length = x.r.items.flatMap encI := by
  unfold pI Res.r; rw [List.take_length]; simp only; rw [List.flatMap_map]
theorem pN_all (x : Res) : pN x x.numbers.length = x.r.numbers.flatMap encN := by
  unfold pN Res.r; rw [List.take_length]
theorem encI_le {y : Itm} (h1 : y.mark ≤ 9223372036854775807) (h2 : y.value.length ≤ 1000000) (h3 : y.version < 18446744073709551616) (h4 : y.dead < 18446744073709551616) : (encI y).length ≤ 1000040 := by
  have a := enc_le y.mark.toNat (by unfold big; omega)
  have b := enc_le y.version (by unfold big; omega)
  have c := enc_le y.dead (by unfold big; omega)
  have d := enc_le y.value.length (by unfold big; omega)
  unfold encI
  split
  · rw [List.append_nil]; omega
  · unfold encS; simp only [List.length_append]; omega
theorem pI_le {x : Res} (h : BndS x) (h40 : x.items.length ≤ 40) : ∀ k, k ≤ x.items.length → (pI x k).length ≤ k * 1000040
  | 0, _ => by rw [pI_zero]; simp
  | k + 1, hk => by
    have ih := pI_le h h40 k (by omega)
    have hb := h.each _ (List.getElem_mem (show k < x.items.length by omega))
    have he := encI_le hb.1.2 hb.2.1 hb.2.2.1 hb.2.2.2
    rw [pI_succ x (by omega), List.length_append]; omega
theorem pN_le {x : Res} (h : BndS x) : ∀ k, k ≤ x.numbers.length → (pN x k).length ≤ k * 10
  | 0, _ => by rw [pN_zero]; simp
  | k + 1, hk => by
    have ih := pN_le h k (by omega)
    have hb := h.nums _ (List.getElem_mem (show k < x.numbers.length by omega))
    have he := enc_le x.numbers[k] (by unfold big; omega)
    rw [pN_succ x (by omega), List.length_append]; omega
theorem wpList_grow {ops : Array Oper} {rest : List Oper} {o : Oper} {a : Act} {Q : Exit → Act → World → Prop} {w : World} (hgd : o.guard = none) (s x : Operand)
    (ho : o.op = .call { callee := .builtin .append, args := #[s, x], argTypes := #[29, 29] })
    {Z : Nat} {U : Option Addr} {l : Bs} {uc : Nat} (hs : a.eval s = .slice U l.length uc) (hm : MineB Z w U l uc) (m : Bs) (A : Option Addr) (c : Nat)
    (hx : a.eval x = .slice A m.length c) (hA : A = none → c = 0) (hr : Rb w A m) (hn : l.length ≤ 1000000000) (hm2 : m.length ≤ 1000000000) (hB : Z ≤ w.heap.size)
    (h : ∀ U' uc' w' l', Hid (l' = l ++ m) → MineB Z w' U' l' uc' → Below Z w w' → Keep w U w' U' → wpList Tryd.prog ops Q rest (a.put o.dst (.slice U' l'.length uc')) w') :
    wpList Tryd.prog ops Q (o :: rest) a w := by
  refine wpList_mine hgd s x elmB _ ho hs hm _ hx m.length _ (src_rb hr hA) hn hm2 hB (fun A' c' w' h1 h2 h3 => ?_)
  rw [map_app] at h1
  have hk : Keep w U w' A' := keep_of h2 h3
  have hb : Below Z w w' := below_of_grown h2 hB (fun k e => by
    rw [Option.map_eq_some_iff] at e
    obtain ⟨b, hb, e''⟩ := e
    have := (hm.base hb).1; omega)
  have hl : l.length + m.length = (l ++ m).length := by rw [List.length_append]
  rw [hl] at h1 ⊢
  exact h A' c' w' _ (Lib.hid rfl) h1 hb hk
def rwPost (w : World) (x : Res) : Ending → World → Prop := fun e w' =>
  ∃ A k, e = .returned (.agg #[.int .u8 (64 + x.op), .slice A (payS x.r).length k]) ∧ Fre w.heap.size w' A (payS x.r) k ∧ Below w.heap.size w w'
theorem pay_err {x : Res} (h : x.err ≠ 0) : payS x.r = encN x.err.toNat := by
  have h2 : x.r.err ≠ 0 := h
  unfold payS; rw [if_neg h2, List.append_nil]; rfl
theorem pay_ok {x : Res} (h : x.err = 0) (hd : Bs) (hh : headS x.r = hd) : payS x.r = encN x.err.toNat ++ hd ++ pI x x.items.length ++ pN x x.numbers.length := by
  have h2 : x.r.err = 0 := h
  unfold payS; rw [if_pos h2, hh, pI_all, pN_all]
  simp only [List.append_assoc]; rfl
theorem head_at {x : Res} : (need x.op = 119 → headS x.r = encN x.version ++ encN x.count.toNat) ∧ (need x.op = 105 → headS x.r = []) ∧ (need x.op = 109 → headS x.r = encN x.items.length) ∧ (need x.op = 110 → headS x.r = encN x.numbers.length) ∧ (need x.op = 99 → headS x.r = encN x.count.toNat) := by
  have e : need x.r.op = need x.op := rfl
  unfold headS
  rw [e]
  refine ⟨fun h => ?_, fun h => ?_, fun h => ?_, fun h => ?_, fun h => ?_⟩ <;> rw [h] <;> simp [Res.r]
end Go.Proofs.YthlfahblnpijaaaDoor.Sw
