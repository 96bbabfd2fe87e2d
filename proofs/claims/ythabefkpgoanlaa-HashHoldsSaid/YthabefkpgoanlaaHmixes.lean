/- Proves that the laws HashMixes, HashIndexes and HashPowers return true at every argument. Condition: each number is one of its kind. -/
import Derived.Test.YthabefkpgoanlaaHk
import Derived.OpenShut
namespace Go.Proofs.Ythabefkpgoanlaa.Hmixes
open Go.RowKit Hm Hw Hk
theorem u64_wf {a : Int} (h : (Lit.int .u64 a).wf = true) : U64 a := by
  have := bounds_u64 h
  unfold U64; omega
theorem known_at (w0 w : World) (h : Below w0.heap.size w0 w) : Calls Try.prog 10 #[] w fun e w' => e = .returned (.bool true) ∧ Below w0.heap.size w0 w' :=
  (known_any w).mono fun _ _ ⟨h1, h2⟩ => ⟨h1, h.trans (h2.mono h.size)⟩
end Go.Proofs.Ythabefkpgoanlaa.Hmixes

namespace Go.Proofs.Ythabefkpgoanlaa.Wmix
open Go.RowKit Hm Hw Hk Hmixes
set_option maxHeartbeats 400000 in
theorem walk (a : Int) (ha : (Lit.int .u64 a).wf = true) (w : World) :
    Calls Try.prog 3 #[.int .u64 a] w fun e w' => e = .returned (.bool true) ∧ Below w.heap.size w w' := by
  have hb := u64_wf ha
  have HB := Lib.hid hb; clear hb ha
  go_enter Try.func3, Try.ntmps3
  go_wp2_with fail
  refine (mix_any a _).mono ?_
  rintro e w' ⟨rfl, rfl⟩
  go_wp2_with fail
  refine (refmix_any a _ HB.out).mono ?_
  rintro e w' ⟨rfl, rfl⟩
  go_wp2_with fail
  refine (known_any _).mono ?_
  rintro e w' ⟨rfl, hw⟩
  go_wp2_with fail
  go_ret
  exact ⟨rfl, hw⟩
end Go.Proofs.Ythabefkpgoanlaa.Wmix

namespace Go.Proofs.Ythabefkpgoanlaa.Windex
open Go.RowKit Hm Hw Hk Hmixes
set_option maxHeartbeats 400000 in
theorem walk (s n : Int) (hs : (Lit.int .u64 s).wf = true) (hn : (Lit.int .i64 n).wf = true) (w : World) :
    Calls Try.prog 5 #[.int .u64 s, .int .i64 n] w fun e w' => e = .returned (.bool true) ∧ Below w.heap.size w w' := by
  have hb := u64_wf hs
  obtain ⟨n0, n1⟩ := bounds_i64 hn
  have HB := Lib.hid hb; clear hb hs hn
  go_enter Try.func5, Try.ntmps5
  go_wp2_with fail
  refine (rindex_any s n _ HB.out).mono ?_
  rintro e w' ⟨rfl, rfl⟩
  go_wp2_with fail
  refine (index_at s n _ _ _ HB.out n0 n1 rfl rfl).mono ?_
  rintro e w' ⟨rfl, rfl⟩
  go_wp2_with fail
  refine (known_any _).mono ?_
  rintro e w' ⟨rfl, hw⟩
  go_wp2_with fail
  go_ret
  exact ⟨rfl, hw⟩
end Go.Proofs.Ythabefkpgoanlaa.Windex

namespace Go.Proofs.Ythabefkpgoanlaa.Wpower
open Go.RowKit Hm Hw Hk Hmixes
set_option maxHeartbeats 400000 in
theorem walk (n : Int) (hn : (Lit.int .i64 n).wf = true) (w : World) :
    Calls Try.prog 6 #[.int .i64 n] w fun e w' => e = .returned (.bool true) ∧ Below w.heap.size w w' := by
  obtain ⟨n0, n1⟩ := bounds_i64 hn
  clear hn
  go_enter Try.func6, Try.ntmps6
  go_wp2_with fail
  refine (rpower_any n _).mono ?_
  rintro e w' ⟨rfl, rfl⟩
  go_wp2_with fail
  refine (power_at n _ _ _ n0 n1 rfl rfl).mono ?_
  rintro e w' ⟨rfl, rfl⟩
  go_wp2_with fail
  refine (known_any _).mono ?_
  rintro e w' ⟨rfl, hw⟩
  go_wp2_with fail
  go_ret
  exact ⟨rfl, hw⟩
end Go.Proofs.Ythabefkpgoanlaa.Wpower
