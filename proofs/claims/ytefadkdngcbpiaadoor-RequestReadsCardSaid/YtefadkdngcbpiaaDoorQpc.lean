/- Proves what package request's payload returns, for every Op. Conditions: the table is laid; a command of bounded parts. -/
import Derived.Test.YtefadkdngcbpiaaDoorQpa
import Derived.Test.YtefadkdngcbpiaaDoorQpb
namespace Go.Proofs.YtefadkdngcbpiaaDoor.Qp
open Go.RowKit Vm Ap Vw Va Vab Gc Mi Mb Qm Qs Qe Qn Fc Qy

theorem payload_any (x : Com) (w : World) (he : Env w) (hr : Rc w x) (hb : Bnd x.c) (hK : x.c.keys.length ≤ 40) (hT : x.c.tags.length ≤ 40) (h : inOp x.c.op = true) :
    Calls Tryd.prog 40 #[comV x] w (bytesPost w (payR x.c)) := by
  obtain ⟨k, hk, e, ek⟩ := in_cases h
  have hp : payR x.c = (needsN k).flatMap (bytesR x.c) := by unfold payR needs; rw [if_pos h, ek]
  rw [hp]
  match k, hk with
  | 0, _ => exact pay57 x 0 (by omega) e rfl w he hr hb hT
  | 1, _ => exact pay57 x 1 (by omega) e rfl w he hr hb hT
  | 2, _ => exact pay121 x 2 (by omega) e rfl w he hr hb hT
  | 3, _ => exact pay1 x 3 (by omega) e rfl w he hr hb
  | 4, _ => exact pay4 x 4 (by omega) e rfl w he hr hb hK
  | 5, _ => exact pay33 x 5 (by omega) e rfl w he hr hb
  | 6, _ => exact pay1 x 6 (by omega) e rfl w he hr hb
  | 7, _ => exact pay128 x 7 (by omega) e rfl w he hr hb
  | 8, _ => exact pay128 x 8 (by omega) e rfl w he hr hb
  | 9, _ => exact pay256 x 9 (by omega) e rfl w he hr hb
  | 10, _ => exact pay3 x 10 (by omega) e rfl w he hr hb
  | 11, _ => exact pay3 x 11 (by omega) e rfl w he hr hb
  | 12, _ => exact pay1 x 12 (by omega) e rfl w he hr hb
  | 13, _ => exact pay0 x 13 (by omega) e rfl w he hr hb
  | 14, _ => exact pay0 x 14 (by omega) e rfl w he hr hb
  | k + 15, h => omega
end Go.Proofs.YtefadkdngcbpiaaDoor.Qp
