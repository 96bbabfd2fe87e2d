/- Proves the law ExpiryNil at every argument. No condition. -/
import Derived.Test.YtpalbccoiejmoaaYi
import Derived.Deep.CutBlock
namespace Go.Proofs.Ytpalbccoiejmoaa.Yj
open Go.RowKit Ap Mi Nw Ya Yb Yc Yd Ye Yf Yg Yh Yi

/-- A nil or zero heap, and what came before stands still. -/
structure Kz (N : Nat) (w w' : World) (p : Option Addr) : Prop where
  i : Idle w' p
  b : Below N w w'
  z : N ≤ w'.heap.size
section
variable {N : Nat} {w w1 : World} {p : Option Addr}
theorem Kz.below {w2 : World} (h : Kz N w w1 p) (hb : Below w1.heap.size w1 w2) : Kz N w w2 p := ⟨h.i.below hb, h.b.trans (hb.mono h.z), Nat.le_trans h.z hb.size⟩
theorem Kz.lk (h : Kz N w w1 p) {v : Value} {q : Ending} {w2 : World} (hp : lkPost w1 v q w2) : q = .returned v ∧ Kz N w w2 p := ⟨hp.1, h.below hp.2⟩
theorem Kz.put (h : Kz N w w1 p) (n a : Int) : Calls Try.prog 13 #[.pointer p, .int .i64 n, .int .u64 a] w1 fun q w2 => q = .returned (.int .i64 1) ∧ Kz N w w2 p := (put_idle h.i n a).mono fun _ _ hp => h.lk hp
theorem Kz.move (h : Kz N w w1 p) (n a : Int) : Calls Try.prog 21 #[.pointer p, .int .i64 n, .int .u64 a] w1 fun q w2 => q = .returned (.int .i64 1) ∧ Kz N w w2 p := (move_idle h.i n a).mono fun _ _ hp => h.lk hp
theorem Kz.len (h : Kz N w w1 p) : Calls Try.prog 23 #[.pointer p] w1 fun q w2 => q = .returned (.int .i64 0) ∧ Kz N w w2 p := (len_idle h.i).mono fun _ _ hp => h.lk hp
theorem Kz.copy (h : Kz N w w1 p) : Calls Try.prog 24 #[.pointer p] w1 fun q w2 => q = .returned (.pointer none) ∧ Kz N w w2 p := (copy_idle h.i).mono fun _ _ hp => h.lk hp
theorem Kz.removes (h : Kz N w w1 p) (n : Int) : Calls Try.prog 15 #[.pointer p, .int .i64 n, .int .u64 0, .int .i64 1] w1 fun q w2 => q = .returned (.bool true) ∧ Kz N w w2 p := (removes_idle h.i n).mono fun _ _ ⟨h1, h2⟩ => ⟨h1, h.below h2⟩
theorem Kz.gets (h : Kz N w w1 p) (n : Int) : Calls Try.prog 22 #[.pointer p, .int .i64 n, .int .u64 0, .int .i64 1] w1 fun q w2 => q = .returned (.bool true) ∧ Kz N w w2 p := (gets_gen n 0 1 (get_idle h.i n)).mono fun _ _ ⟨h1, h2⟩ => ⟨h1, h.below h2⟩
theorem Kz.first (h : Kz N w w1 p) : Calls Try.prog 14 #[.pointer p, .agg #[.int .i64 0, .int .u64 0], .int .i64 1] w1 fun q w2 => q = .returned (.bool true) ∧ Kz N w w2 p := (first_gen (0, 0) 1 (fun _ hb => first_idle (h.i.below hb))).mono fun _ _ ⟨h1, h2⟩ => ⟨h1, h.below h2⟩
theorem Kz.dues (h : Kz N w w1 p) (now : Int) : Calls Try.prog 17 #[.pointer p, .int .u64 now, .slice none 0 0, .int .i64 1] w1 fun q w2 => q = .returned (.bool true) ∧ Kz N w w2 p := (dues_idle h.i now).mono fun _ _ ⟨h1, h2⟩ => ⟨h1, h.below h2⟩
theorem Kz.list (h : Kz N w w1 p) : Calls Try.prog 19 #[.pointer p] w1 fun q w2 => ∃ A c, q = .returned (.slice A 0 c) ∧ Kz N w w2 p := (list_idle h.i).mono fun _ _ ⟨A, c, h1, h2⟩ => ⟨A, c, h1, h.below h2⟩
end
set_option maxRecDepth 100000 in
set_option maxHeartbeats 4000000 in
theorem nil_walk (n t : Int) (W : World) : Calls Try.prog 6 #[.int .i64 n, .int .u64 t] W (boolTo true W) := by
  unfold boolTo
  obtain ⟨N, hN⟩ : ∃ N, N = W.heap.size := ⟨_, rfl⟩
  rw [← hN]
  obtain ⟨w0, hw0⟩ : ∃ w0, w0 = (W.alloc (.cells zeroC 55)).alloc (.cells #[.pointer none, .pointer (some ⟨N, 0, none⟩)] 24) := ⟨_, rfl⟩
  have P1 : Hid (Blk w0 N zeroC 55) := by
    show Blk _ _ _ _
    rw [hw0, hN]; exact (Blk.new W _ _).below (bnew _ _) (by simp)
  have P2 : Hid (Blk w0 (N + 1) #[.pointer none, .pointer (some ⟨N, 0, none⟩)] 24) := by
    show Blk _ _ _ _
    have := Blk.new (W.alloc (.cells zeroC 55)) #[.pointer none, .pointer (some ⟨N, 0, none⟩)] 24
    rw [hw0, hN]; rw [hN] at this; simpa using this
  have HB : Hid (Below N W w0) := by show Below _ _ _; rw [hw0, hN]; exact (bnew W _).alloc (by simp) _
  have hz0 : N + 1 < w0.heap.size := P2.out.lt
  unfold zeroC at hw0
  go_enter Try.func6, Try.ntmps6
  go_upto_region 3 with (fail)
  rw [← hN]
  rw [← hw0]
  clear hw0 hN
  go_loopw [13] (fun i wr => ∃ K : Nat, K ≤ 2 ∧ i = .int .i64 (K : Int) ∧ Below (N + 2) w0 wr) (fun i _ => 2 - (intOf i).toNat)
  case atStart => exact ⟨0, by omega, rfl, Below.refl _ _⟩
  case round =>
    obtain ⟨K, hK, rfl, hb⟩ := hrel
    have HBr := Lib.hid hb
    have hzr := hb.size
    by_cases hlt : K < 2
    · have i1 : (K : Int) < 2 := by omega
      obtain ⟨p, hv, hid⟩ : ∃ p, wr.cell? ⟨N + 1, K, none⟩ = some (.pointer p) ∧ Idle wr p := by
        have h2 := P2.out.below hb (by omega)
        have h1 := P1.out.below hb (by omega)
        have : K = 0 ∨ K = 1 := by omega
        rcases this with rfl | rfl
        · exact ⟨_, h2.cell 0, Or.inl rfl⟩
        · exact ⟨_, h2.cell 1, Or.inr ⟨N, rfl, h1⟩⟩
      have K1 : Hid (Kz (N + 2) w0 wr p) := ⟨hid, hb, by omega⟩
      have lN : N + 1 < wr.heap.size := by omega
      clear hb hid
      go_wp2_with fail
      refine (K1.out.put n t).mono ?_
      rintro q w2 ⟨rfl, hk⟩
      have K2 := Lib.hid hk
      clear hk K1
      go_wp2_with fail
      refine (K2.out.move n t).mono ?_
      rintro q w3 ⟨rfl, hk⟩
      have K3 := Lib.hid hk
      clear hk K2
      go_wp2_with fail
      refine (K3.out.removes n).mono ?_
      rintro q w4 ⟨rfl, hk⟩
      have K4 := Lib.hid hk
      clear hk K3
      go_wp2_with fail
      refine (K4.out.gets n).mono ?_
      rintro q w5 ⟨rfl, hk⟩
      have K5 := Lib.hid hk
      clear hk K4
      go_wp2_with fail
      refine (K5.out.first).mono ?_
      rintro q w6 ⟨rfl, hk⟩
      have K6 := Lib.hid hk
      clear hk K5
      go_wp2_with fail
      refine (K6.out.dues t).mono ?_
      rintro q w7 ⟨rfl, hk⟩
      have K7 := Lib.hid hk
      clear hk K6
      go_wp2_with fail
      refine (K7.out.len).mono ?_
      rintro q w8 ⟨rfl, hk⟩
      have K8 := Lib.hid hk
      clear hk K7
      go_wp2_with fail
      refine (K8.out.list).mono ?_
      rintro q w9 ⟨A9, c9, rfl, hk⟩
      have K9 := Lib.hid hk
      clear hk K8
      go_wp2_with fail
      refine (K9.out.copy).mono ?_
      rintro q w10 ⟨rfl, hk⟩
      have K10 := Lib.hid hk
      clear hk K9
      go_wp2_with fail
      go_roundw
      case rel => exact ⟨K + 1, by omega, by go_num, K10.out.b⟩
      case measure => simp [intOf]; omega
    · obtain rfl : K = 2 := by omega
      have hnn : ¬ ((2 : Nat) : Int) < 2 := by omega
      clear hb
      go_wp2_with fail
      refine (known_any _).mono ?_
      rintro q w63 ⟨rfl, hb⟩
      have HBz := Lib.hid hb
      clear hb
      go_wp2_with fail
      go_ret
      exact ⟨rfl, HB.out.trans ((HBr.out.trans (HBz.out.mono (by omega))).mono (by omega))⟩
end Go.Proofs.Ytpalbccoiejmoaa.Yj
