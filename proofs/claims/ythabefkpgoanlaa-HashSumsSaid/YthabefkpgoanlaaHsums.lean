/- Proves that the law HashSums returns true at every seed and string. Condition: the seed is one of uint64, the string has a length of the form's own bound. -/
import Derived.Test.YthabefkpgoanlaaHmixes
import Derived.Lib.ConvBytes
namespace Go.Proofs.Ythabefkpgoanlaa.Wsums
open Go.RowKit Hm Hw Hk Hmixes

/-- Behind []byte(s): old memory is as it was. -/
theorem bytesWorld_below (B : Nat) (w0 w : World) (e : TypeId) (s : ByteArray) (h : Below B w0 w) (hB : B ≤ w.heap.size) : Below B w0 (Lib.bytesWorld w e s) := by
  refine ⟨h.os, h.tape, h.output, ?_, fun k hk => ?_⟩
  · rw [Lib.bytesWorld_size]; exact Nat.le_succ_of_le h.size
  · rw [Lib.bytesWorld_at_old w e s k (by omega)]; exact h.block k hk

theorem conv_run (w : World) (s : ByteArray) : (convert 9 28 (.string s)).run Try.prog w = .ok (.slice (some ⟨w.heap.size, 0, none⟩) s.size (grownCap w s.size 0 5)) (Lib.bytesWorld w 5 s) :=
  Lib.run_convert_string_bytes w 9 28 5 s Try.underlying9 Try.underlying28 Try.underlying5

theorem bytes_conv (h : Int) (s : ByteArray) (cap : Nat) (w : World) (hs : s.size ≤ 600) :
    Calls Try.prog 13 #[.int .u64 h, .slice (some ⟨w.heap.size, 0, none⟩) s.size cap] (Lib.bytesWorld w 5 s) fun e w' => e = .returned (.int .u64 (mixI (sumL h s.data.toList))) ∧ Lib.bytesWorld w 5 s = w' := by
  have hl : s.data.toList.length = s.size := by simp
  have := bytes_any h w.heap.size 0 s.data.toList cap (Lib.bytesWorld w 5 s) (by omega) fun k hk => by
    have := Lib.bytesWorld_cell w 5 s k (by omega)
    rw [Nat.zero_add, this]
    rw [show s.data.toList.getD k 0 = s.data.toList[k] from by rw [List.getD_eq_getElem?_getD, List.getElem?_eq_getElem hk]; rfl]
  rwa [hl] at this

set_option maxHeartbeats 400000 in
theorem walk (h : Int) (s : ByteArray) (hh : (Lit.int .u64 h).wf = true) (hs : s.size ≤ maxLen) (w : World) :
    Calls Try.prog 4 #[.int .u64 h, .string s] w fun e w' => e = .returned (.bool true) ∧ Below w.heap.size w w' := by
  have hb := u64_wf hh
  have HB := Lib.hid hb; clear hb hh
  have HS := Lib.hid hs
  unfold maxLen at hs
  by_cases hl : s.size ≤ 600
  · have hc := conv_run w s
    go_enter Try.func4, Try.ntmps4
    go_wp2_with fail
    refine (sum_any h s _ HB.out HS.out).mono ?_
    rintro e w' ⟨rfl, rfl⟩
    go_wp2_with fail
    refine (refsum_any h s _ HB.out HS.out).mono ?_
    rintro e w' ⟨rfl, rfl⟩
    go_wp2_with fail
    refine (bytes_conv h s _ _ hl).mono ?_
    rintro e w' ⟨rfl, rfl⟩
    go_wp2_with fail
    refine (refsum_any h s _ HB.out HS.out).mono ?_
    rintro e w' ⟨rfl, rfl⟩
    go_wp2_with fail
    refine (known_at w _ (bytesWorld_below _ _ _ _ _ (Below.refl _ _) (Nat.le_refl _))).mono ?_
    rintro e w' ⟨rfl, hw⟩
    clear hc
    go_wp2_with fail
    go_ret
    exact ⟨rfl, hw⟩
  · go_enter Try.func4, Try.ntmps4
    go_wp2_with fail
    refine (known_any _).mono ?_
    rintro e w' ⟨rfl, hw⟩
    go_wp2_with fail
    go_ret
    exact ⟨rfl, hw⟩
end Go.Proofs.Ythabefkpgoanlaa.Wsums
