/- Proves what the reader's command returns, for every Op. Conditions: the table is laid; few bytes. -/
import Derived.Test.YtefadkdngcbpiaaDoorQcb
import Derived.Test.YtefadkdngcbpiaaDoorQcc
namespace Go.Proofs.YtefadkdngcbpiaaDoor.Qc
open Go.RowKit Vm Ap Vw Va Vc Vp Vn Vs Gc Mi Mb Qm Qs Qe Qd Qy

theorem command_any (B : Nat) (op : Int) (h : inOp op = true) (p : Bs) (w : World) (g i : Nat) (he : Env w) (hq : Rq B w g i (some p)) :
    Calls Tryd.prog 45 #[.pointer (some ⟨i, 0, none⟩), .int .i64 op] w (tkC B w g i (rdAll (needs op) (bare op) p)) := by
  obtain ⟨k, hk, e, ek⟩ := in_cases h
  subst e
  have hn : needs ((k : Int) + 1) = needsN k := by unfold needs; rw [if_pos h, ek]
  rw [hn]
  match k, hk with
  | 0, _ => exact cmd57 B 0 (by omega) rfl p w g i he hq
  | 1, _ => exact cmd57 B 1 (by omega) rfl p w g i he hq
  | 2, _ => exact cmd121 B 2 (by omega) rfl p w g i he hq
  | 3, _ => exact cmd1 B 3 (by omega) rfl p w g i he hq
  | 4, _ => exact cmd4 B 4 (by omega) rfl p w g i he hq
  | 5, _ => exact cmd33 B 5 (by omega) rfl p w g i he hq
  | 6, _ => exact cmd1 B 6 (by omega) rfl p w g i he hq
  | 7, _ => exact cmd128 B 7 (by omega) rfl p w g i he hq
  | 8, _ => exact cmd128 B 8 (by omega) rfl p w g i he hq
  | 9, _ => exact cmd256 B 9 (by omega) rfl p w g i he hq
  | 10, _ => exact cmd3 B 10 (by omega) rfl p w g i he hq
  | 11, _ => exact cmd3 B 11 (by omega) rfl p w g i he hq
  | 12, _ => exact cmd1 B 12 (by omega) rfl p w g i he hq
  | 13, _ => exact cmd0 B 13 (by omega) rfl p w g i he hq
  | 14, _ => exact cmd0 B 14 (by omega) rfl p w g i he hq
  | k + 15, h => omega
end Go.Proofs.YtefadkdngcbpiaaDoor.Qc
