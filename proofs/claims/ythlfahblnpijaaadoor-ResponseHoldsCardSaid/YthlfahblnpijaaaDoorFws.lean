/- Proves what package frame's Size returns. Conditions: few bytes. -/
import Derived.Test.YthlfahblnpijaaaDoorFwa
import Derived.Test.YthlfahblnpijaaaDoorVa
namespace Go.Proofs.YthlfahblnpijaaaDoor.Fw
open Go.RowKit Vm Ap Vw Va Gc Fm

theorem size_at (n : Nat) (x s : Int) (w : World) (hx : (n : Int) = x) (hn : n < big) (hs : ((encN n).length : Int) = s) :
    Calls Tryd.prog 33 #[.int .u64 x] w fun e w' => e = .returned (.int .i64 s) ∧ w = w' := by subst hx; subst hs; exact size_any n w hn
set_option maxRecDepth 100000 in
set_option maxHeartbeats 400000 in
theorem fsize_no (c : UInt8) (A : Option Addr) (p : Bs) (k : Nat) (w : World) (hp : 2097152 < p.length) :
    Calls Tryd.prog 19 #[.agg #[.int .u8 (c.toNat : Int), .slice A p.length k]] w (twoPost w 0 5) := by
  have hp1 : (2097152 : Int) < p.length := by omega
  go_enter Tryd.func19, Tryd.ntmps19
  go_wp2_with fail
  go_ret2
  exact ⟨rfl, alloc_below _ _⟩
set_option maxRecDepth 100000 in
set_option maxHeartbeats 400000 in
theorem fsize_ok (c : UInt8) (A : Option Addr) (p : Bs) (k : Nat) (w : World) (hp : p.length ≤ 2097152) :
    Calls Tryd.prog 19 #[.agg #[.int .u8 (c.toNat : Int), .slice A p.length k]] w (twoPost w ((wire c p).length : Int) 0) := by
  have hp1 : (p.length : Int) ≤ 2097152 := by omega
  have hle := enc_le (p.length + 1) (by unfold big; omega)
  have HW : Hid (((encN (p.length + 1)).length : Int) + (1 + p.length) = ((wire c p).length : Int)) := by show _ = _; rw [wire_len]; omega
  generalize (wire c p).length = z at *
  have HS : Hid (∀ w, Calls Tryd.prog 33 #[.int .u64 (1 + (p.length : Int))] w fun e w' => e = .returned (.int .i64 ((encN (p.length + 1)).length : Int)) ∧ w = w') := fun w => size_at (p.length + 1) _ _ w (by omega) (by unfold big; omega) rfl
  generalize (encN (p.length + 1)).length = s at *
  go_enter Tryd.func19, Tryd.ntmps19
  go_wp2_with fail
  refine (HS.out _).mono ?_
  rintro e w' ⟨rfl, rfl⟩
  go_wp2_with fail
  go_ret2
  exact ⟨by rw [← HW.out]; rfl, alloc_below _ _⟩
end Go.Proofs.YthlfahblnpijaaaDoor.Fw
