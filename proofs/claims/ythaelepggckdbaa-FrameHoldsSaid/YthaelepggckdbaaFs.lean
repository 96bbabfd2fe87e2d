/- Proves append in a region that draws its order, where the operation is guarded. Conditions: few bytes. -/
import Derived.Test.YthaelepggckdbaaVw
namespace Go.Proofs.Ythaelepggckdbaa.Fs
open Go.RowKit Vm Ap Vw

/-- 'append(out, s...)' in a region that draws its order, at the world at hand, guarded or not. -/
theorem step_guarded {ops : Array Oper} {o : Oper} {a : Act} {K : Act → World → Prop} {Q : Exit → Act → World → Prop} {E : Prop} {w : World} (hwd : Region.wanted o (yielded ops a.tmps) = true) (s x : Operand)
    (ho : o.op = .call { callee := .builtin .append, args := #[s, x], argTypes := #[22, 22] })
    {B : Nat} {v : Value} {l : Bs} (hs : a.eval s = v) (hown : Own B w v l) (m : Bs) (A : Option Addr) (c : Nat)
    (hx : a.eval x = .slice A m.length c) (hA : A = none → c = 0) (hr : Rb w A m) (hn : l.length ≤ 1000000000) (hm : m.length ≤ 1000000000) (hB : B ≤ w.heap.size)
    (h : ∀ v' w', Own B w' v' (l ++ m) → w.grownBy w' v.ownBlock → K (a.put o.dst v') w') :
    if Region.wanted o (yielded ops a.tmps) = true then Oper.wp Try.prog o a w K Q else E := by
  rw [if_pos hwd]
  have hi := elB.info
  rw [Option.map_eq_some_iff] at hi
  obtain ⟨i, hi1, hi2⟩ := hi
  simp only [Prod.mk.injEq] at hi2
  have hb := elB.small i hi1
  cases A with
  | none =>
    have hm0 : m = [] := by
      rcases Nat.eq_zero_or_pos m.length with h0 | h0
      · exact List.eq_nil_of_length_eq_zero h0
      · obtain ⟨_, _, e, _⟩ := hr h0; cases e
    subst hm0
    rw [hA rfl] at hx
    have hrun := run_append_owned_none (P := Try.prog) w B 22 o.type 5 i 1 elB.sl hi1 v _ _ (own_row hown)
    have hx' : a.eval x = .slice none 0 0 := hx
    have hk := h v w (by rw [List.append_nil]; exact hown) (World.grownBy.refl w _)
    unfold Oper.wp
    simp [execOp, ho, resolve, invoke, builtin, hs, hx', hrun, Result.andThen]
    exact hk
  | some ad =>
    have hcells : ∀ j u, (m.map byteV)[j]? = some u → w.cell? (ad.add j) = some u := by
      intro j u hu
      rw [List.getElem?_map] at hu
      cases hj : m[j]? with
      | none => rw [hj] at hu; cases hu
      | some y =>
        rw [hj] at hu
        obtain ⟨hj1, hj2⟩ := List.getElem?_eq_some_iff.1 hj
        obtain ⟨b, o', e, _, hc⟩ := hr (by omega)
        have e' : ad = ⟨b, o', none⟩ := by injection e
        subst e'
        rw [add_plain, hc j hj1, hj2]
        simpa [byteV] using hu
    have hmul : (l.length + m.length) * i.bytes ≤ 2000000000 * 1024 := Nat.mul_le_mul (by omega) hb
    refine wp_append_own _ s x _ ho B _ i (.int .u8 0) 1 i.bytes elB.sl hi1 hi2.1 hi2.2 rfl elB.one (by omega) v l.length (l.map byteV) hs (own_row hown) ad m.length c (m.map byteV) hx (by simp) hcells (by intro u hu; obtain ⟨y, _, rfl⟩ := List.mem_map.1 hu; rfl) (by unfold maxLen; omega) (by omega) hB ?_
    intro v' w' h2 h3 _
    refine h v' w' ?_ h3
    unfold Own
    rw [List.length_append, List.map_append]
    exact h2

end Go.Proofs.Ythaelepggckdbaa.Fs
