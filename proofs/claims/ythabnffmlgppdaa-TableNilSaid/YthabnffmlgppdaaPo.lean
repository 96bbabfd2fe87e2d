/- Proves the law TableNil at every argument. No condition but the bounds of its arguments. -/
import Derived.Test.YthabnffmlgppdaaPk
namespace Go.Proofs.Ythabnffmlgppdaa.Po
open Go.RowKit Ap Mi Nw Rg Hm Tm Tn Ta Tb Pm Pa Pb Pc Pd Pe Pf Pg Ph Pn Pj Pk

set_option maxRecDepth 100000 in
set_option maxHeartbeats 4000000 in
theorem nil_walk (s : ByteArray) (n : Int) (W : World) (hs : s.size ≤ maxLen) : Calls Try.prog 5 #[.string s, .int .i64 n] W (boolTo true W) := by
  unfold boolTo
  obtain ⟨k, rfl, hkl⟩ := key_of s
  have hkm : k.length ≤ 9223372036854775807 := by rw [hkl]; unfold maxLen at hs; omega
  clear hs hkl
  obtain ⟨N, hN⟩ : ∃ N, N = W.heap.size := ⟨_, rfl⟩
  rw [← hN]
  by_cases hk3 : (300 : Int) < (k.length : Int)
  · go_enter Try.func5, Try.ntmps5
    go_wp2_with fail
    refine (known_any W).mono ?_
    rintro q w1 ⟨rfl, hb⟩
    have HB := Lib.hid hb
    clear hb
    go_wp2_with fail
    go_ret
    exact ⟨rfl, by rw [hN]; exact HB.out⟩
  · obtain ⟨w0, hw0⟩ : ∃ w0, w0 = (W.alloc (.cells #[.int .u64 0, .slice none 0 0, .int .i64 0] 51)).alloc (.cells #[.pointer none, .pointer (some ⟨N, 0, none⟩)] 26) := ⟨_, rfl⟩
    have P1 : Hid (Blk w0 N #[.int .u64 0, .slice none 0 0, .int .i64 0] 51) := by
      show Blk _ _ _ _
      rw [hw0, hN]; exact (Blk.new W _ _).below (bnew _ _) (by simp)
    have P2 : Hid (Blk w0 (N + 1) #[.pointer none, .pointer (some ⟨N, 0, none⟩)] 26) := by
      show Blk _ _ _ _
      have := Blk.new (W.alloc (.cells #[.int .u64 0, .slice none 0 0, .int .i64 0] 51)) #[.pointer none, .pointer (some ⟨N, 0, none⟩)] 26
      rw [hw0, hN]; rw [hN] at this; simpa using this
    have HB : Hid (Below N W w0) := by show Below _ _ _; rw [hw0, hN]; exact (bnew W _).alloc (by simp) _
    have hz0 : N + 1 < w0.heap.size := P2.out.lt
    go_enter Try.func5, Try.ntmps5
    go_upto_region 5 with (fail)
    rw [← hN]
    rw [← hw0]
    clear hw0 hN
    go_loopw [21] (fun i wr => ∃ K : Nat, K ≤ 2 ∧ i = .int .i64 (K : Int) ∧ Below (N + 2) w0 wr) (fun i _ => 2 - (intOf i).toNat)
    case atStart => exact ⟨0, by omega, rfl, Below.refl _ _⟩
    case round =>
      obtain ⟨K, hK, rfl, hb⟩ := hrel
      have HBr := Lib.hid hb
      have hzr := hb.size
      by_cases hlt : K < 2
      · have i1 : (K : Int) < 2 := by omega
        obtain ⟨v, hv, hid⟩ : ∃ v, wr.cell? ⟨N + 1, K, none⟩ = some v ∧ Idle wr v := by
          have h2 := P2.out.below hb (by omega)
          have h1 := P1.out.below hb (by omega)
          have : K = 0 ∨ K = 1 := by omega
          rcases this with rfl | rfl
          · exact ⟨_, h2.cell 0, Or.inl rfl⟩
          · exact ⟨_, h2.cell 1, Or.inr ⟨N, rfl, h1⟩⟩
        have HI := Lib.hid hid
        have hvp : v = .pointer none ∨ ∃ b, v = .pointer (some b) := by rcases hid with h | ⟨b, h, _⟩; exact Or.inl h; exact Or.inr ⟨_, h⟩
        clear hb hid hvp
        have lN : N + 1 < wr.heap.size := by omega
        go_wp2_with fail
        refine (set_idle HI.out k n).mono ?_
        rintro q w60 ⟨rfl, rfl⟩
        go_wp2_with fail
        refine (cells_idle HI.out).mono ?_
        rintro q wc ⟨X, Y, rfl, _, hb⟩
        have HIc := Lib.hid (HI.out.below hb)
        have HBc := Lib.hid (HBr.out.trans (hb.mono (by omega)))
        have hzc := hb.size
        clear hb hv HI
        rw [show ([] : List (Cell Key)).length = 0 from rfl]
        go_wp2_with fail
        refine (put_idle HIc.out k n).mono ?_
        rintro q w60 ⟨rfl, rfl⟩
        go_wp2_with fail
        refine (gets_true k 0 1 (R := fun w' => wc = w') (get_idle HIc.out k)).mono ?_
        rintro q w60 ⟨rfl, rfl⟩
        go_wp2_with fail
        refine (is_true 0 1).mono ?_
        rintro q w60 ⟨rfl, rfl⟩
        go_wp2_with fail
        refine (dels_true k 0 1 (R := fun w' => wc = w') (del_idle HIc.out k)).mono ?_
        rintro q w60 ⟨rfl, rfl⟩
        go_wp2_with fail
        refine (len_idle HIc.out).mono ?_
        rintro q w60 ⟨rfl, rfl⟩
        go_wp2_with fail
        refine (size_idle HIc.out).mono ?_
        rintro q w60 ⟨rfl, rfl⟩
        go_wp2_with fail
        refine (copy_idle HIc.out).mono ?_
        rintro q w60 ⟨rfl, rfl⟩
        go_wp2_with fail
        go_roundw
        case rel => exact ⟨K + 1, by omega, by go_num, HBc.out⟩
        case measure => simp [intOf]; omega
      · obtain rfl : K = 2 := by omega
        have hnn : ¬ ((2 : Nat) : Int) < 2 := by omega
        clear hb
        go_wp2_with fail
        refine (known_any _).mono ?_
        rintro q w63 ⟨rfl, hb⟩
        have HBz := Lib.hid hb
        clear hb
        go_wp2_with fail
        go_ret
        exact ⟨rfl, HB.out.trans ((HBr.out.trans (HBz.out.mono (by omega))).mono (by omega))⟩
end Go.Proofs.Ythabnffmlgppdaa.Po
