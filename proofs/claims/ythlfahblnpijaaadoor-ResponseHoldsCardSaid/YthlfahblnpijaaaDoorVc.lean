/- Proves what bytes.Clone returns. Conditions: few bytes. -/
import Derived.Test.YthlfahblnpijaaaDoorBa
namespace Go.Proofs.YthlfahblnpijaaaDoor.Vc
open Go.RowKit Vm Ap Vw Va

theorem ints_byteV (l : Bs) : (l.map fun b => (b.toNat : Int)).map (Value.int .u8) = l.map byteV := by rw [List.map_map]; rfl
theorem clone_any (A : Option Addr) (l : Bs) (c : Nat) (w : World) (hA : Rb w A l) (hl : l.length ≤ 1000000000) :
    Calls Tryd.prog 34 #[.slice A l.length c] w (bytesPost w l) := by
  cases A with
  | none =>
    have h0 : l = [] := by
      rcases Nat.eq_zero_or_pos l.length with h0 | h0
      · exact List.eq_nil_of_length_eq_zero h0
      · obtain ⟨_, _, e, _⟩ := hA h0; cases e
    subst h0
    refine (Tryd.bytes_Clone_nil _ c w).mono ?_
    rintro e w' ⟨rfl, rfl⟩
    exact ⟨_, rfl, own_nil _ _, Below.refl _ _⟩
  | some a =>
    refine (Tryd.bytes_Clone_at a l.length c (l.map fun b => (b.toNat : Int)) w (by simp) (by omega) ?_).mono ?_
    · intro i hi
      obtain ⟨b, o, e, _, hc⟩ := hA (by omega)
      injection e with e
      subst e
      rw [add_plain, hc i hi]
      simp [List.getElem?_eq_getElem hi]
    · rintro e w' ⟨v, rfl, h1, _, h3⟩
      refine ⟨v, rfl, ?_, h3⟩
      rw [ints_byteV] at h1
      exact h1

theorem clone_n (A : Option Addr) (l : Bs) (n c : Nat) (w : World) (hn : l.length = n) (hA : Rb w A l) (hl : l.length ≤ 1000000000) :
    Calls Tryd.prog 34 #[.slice A n c] w (bytesPost w l) := by subst hn; exact clone_any A l c w hA hl
end Go.Proofs.YthlfahblnpijaaaDoor.Vc
