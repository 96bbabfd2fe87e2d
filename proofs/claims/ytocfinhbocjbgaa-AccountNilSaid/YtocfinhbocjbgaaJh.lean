/- Proves the law AccountNil at every argument. No condition. -/
import Derived.Test.YtocfinhbocjbgaaJg
import Derived.Deep.CutBlock
namespace Go.Proofs.Ytocfinhbocjbgaa.Jh
open Go.RowKit Ap Mi Nw Ja Jb Jc Je Jf Jg

/-- A nil or zero account, and what came before stands still. -/
structure Kz (N : Nat) (w w' : World) (p : Option Addr) : Prop where
  i : Idle w' p
  b : Below N w w'
  z : N ≤ w'.heap.size
section
variable {N : Nat} {w w1 : World} {p : Option Addr}
theorem Kz.below {w2 : World} (h : Kz N w w1 p) (hb : Below w1.heap.size w1 w2) : Kz N w w2 p := ⟨h.i.below hb, h.b.trans (hb.mono h.z), Nat.le_trans h.z hb.size⟩
theorem Kz.lk (h : Kz N w w1 p) {v : Value} {q : Ending} {w2 : World} (hp : vPost w1 v q w2) : q = .returned v ∧ Kz N w w2 p := ⟨hp.1, h.below hp.2⟩
theorem Kz.add (h : Kz N w w1 p) (c : Int) : Calls Try.prog 14 #[.pointer p, .int .i64 c] w1 fun q w2 => q = .returned (.int .i64 1) ∧ Kz N w w2 p := (add_idle h.i c).mono fun _ _ hp => h.lk hp
theorem Kz.rem (h : Kz N w w1 p) (c : Int) : Calls Try.prog 16 #[.pointer p, .int .i64 c] w1 fun q w2 => q = .returned (.int .i64 1) ∧ Kz N w w2 p := (rem_idle h.i c).mono fun _ _ hp => h.lk hp
theorem Kz.chg (h : Kz N w w1 p) (c d : Int) : Calls Try.prog 18 #[.pointer p, .int .i64 c, .int .i64 d] w1 fun q w2 => q = .returned (.int .i64 1) ∧ Kz N w w2 p := (chg_idle h.i c d).mono fun _ _ hp => h.lk hp
theorem Kz.fits (h : Kz N w w1 p) (c : Int) : Calls Try.prog 19 #[.pointer p, .int .i64 c] w1 fun q w2 => q = .returned (.bool false) ∧ Kz N w w2 p := (fits_idle h.i c).mono fun _ _ hp => h.lk hp
theorem Kz.copy (h : Kz N w w1 p) : Calls Try.prog 21 #[.pointer p] w1 fun q w2 => q = .returned (.pointer none) ∧ Kz N w w2 p := (copy_idle h.i).mono fun _ _ hp => h.lk hp
theorem Kz.used (h : Kz N w w1 p) : Calls Try.prog 23 #[.pointer p, .int .i64 0, .int .i64 0] w1 fun q w2 => q = .returned (.bool true) ∧ Kz N w w2 p := (used_gen 0 0 (used_idle h.i)).mono fun _ _ ⟨h1, h2⟩ => ⟨h1, h.below h2⟩
theorem Kz.over (h : Kz N w w1 p) : Calls Try.prog 24 #[.pointer p, .int .i64 0, .int .i64 0] w1 fun q w2 => q = .returned (.bool true) ∧ Kz N w w2 p := (over_gen 0 0 (over_idle h.i)).mono fun _ _ ⟨h1, h2⟩ => ⟨h1, h.below h2⟩
theorem Kz.budget (h : Kz N w w1 p) : Calls Try.prog 25 #[.pointer p, .int .i64 0, .int .i64 0] w1 fun q w2 => q = .returned (.bool true) ∧ Kz N w w2 p := (budget_gen 0 0 (budget_idle h.i)).mono fun _ _ ⟨h1, h2⟩ => ⟨h1, h.below h2⟩
end
set_option maxRecDepth 100000 in
set_option maxHeartbeats 4000000 in
theorem nil_walk (n t : Int) (W : World) : Calls Try.prog 6 #[.int .i64 n, .int .i64 t] W (boolTo true W) := by
  unfold boolTo
  obtain ⟨N, hN⟩ : ∃ N, N = W.heap.size := ⟨_, rfl⟩
  rw [← hN]
  obtain ⟨w0, hw0⟩ : ∃ w0, w0 = (W.alloc (.cells zeroC 52)).alloc (.cells #[.pointer none, .pointer (some ⟨N, 0, none⟩)] 31) := ⟨_, rfl⟩
  have P1 : Hid (Blk w0 N zeroC 52) := by
    show Blk _ _ _ _
    rw [hw0, hN]; exact (Blk.new W _ _).below (bnew _ _) (by simp)
  have P2 : Hid (Blk w0 (N + 1) #[.pointer none, .pointer (some ⟨N, 0, none⟩)] 31) := by
    show Blk _ _ _ _
    have := Blk.new (W.alloc (.cells zeroC 52)) #[.pointer none, .pointer (some ⟨N, 0, none⟩)] 31
    rw [hw0, hN]; rw [hN] at this; simpa using this
  have HB : Hid (Below N W w0) := by show Below _ _ _; rw [hw0, hN]; exact (bnew W _).alloc (by simp) _
  have hz0 : N + 1 < w0.heap.size := P2.out.lt
  unfold zeroC at hw0
  go_enter Try.func6, Try.ntmps6
  go_upto_region 3 with (fail)
  rw [← hN]
  rw [← hw0]
  clear hw0 hN
  go_loopw [13] (fun i wr => ∃ K : Nat, K ≤ 2 ∧ i = .int .i64 (K : Int) ∧ Below (N + 2) w0 wr) (fun i _ => 2 - (intOf i).toNat)
  case atStart => exact ⟨0, by omega, rfl, Below.refl _ _⟩
  case round =>
    obtain ⟨K, hK, rfl, hb⟩ := hrel
    have HBr := Lib.hid hb
    have hzr := hb.size
    by_cases hlt : K < 2
    · have i1 : (K : Int) < 2 := by omega
      obtain ⟨p, hv, hid⟩ : ∃ p, wr.cell? ⟨N + 1, K, none⟩ = some (.pointer p) ∧ Idle wr p := by
        have h2 := P2.out.below hb (by omega)
        have h1 := P1.out.below hb (by omega)
        have : K = 0 ∨ K = 1 := by omega
        rcases this with rfl | rfl
        · exact ⟨_, h2.cell 0, Or.inl rfl⟩
        · exact ⟨_, h2.cell 1, Or.inr ⟨N, rfl, h1⟩⟩
      have K1 : Hid (Kz (N + 2) w0 wr p) := ⟨hid, hb, by omega⟩
      have lN : N + 1 < wr.heap.size := by omega
      clear hb hid
      go_wp2_with fail
      refine (K1.out.add n).mono ?_
      rintro q w2 ⟨rfl, hk⟩
      have K2 := Lib.hid hk
      clear hk K1
      go_wp2_with fail
      refine (K2.out.rem n).mono ?_
      rintro q w3 ⟨rfl, hk⟩
      have K3 := Lib.hid hk
      clear hk K2
      go_wp2_with fail
      refine (K3.out.chg n t).mono ?_
      rintro q w4 ⟨rfl, hk⟩
      have K4 := Lib.hid hk
      clear hk K3
      go_wp2_with fail
      refine (K4.out.fits n).mono ?_
      rintro q w5 ⟨rfl, hk⟩
      have K5 := Lib.hid hk
      clear hk K4
      go_wp2_with fail
      refine (K5.out.used).mono ?_
      rintro q w6 ⟨rfl, hk⟩
      have K6 := Lib.hid hk
      clear hk K5
      go_wp2_with fail
      refine (K6.out.over).mono ?_
      rintro q w7 ⟨rfl, hk⟩
      have K7 := Lib.hid hk
      clear hk K6
      go_wp2_with fail
      refine (K7.out.budget).mono ?_
      rintro q w8 ⟨rfl, hk⟩
      have K8 := Lib.hid hk
      clear hk K7
      go_wp2_with fail
      refine (K8.out.copy).mono ?_
      rintro q w9 ⟨rfl, hk⟩
      have K9 := Lib.hid hk
      clear hk K8
      go_wp2_with fail
      go_roundw
      case rel => exact ⟨K + 1, by omega, by go_num, K9.out.b⟩
      case measure => simp [intOf]; omega
    · obtain rfl : K = 2 := by omega
      have hnn : ¬ ((2 : Nat) : Int) < 2 := by omega
      clear hb
      go_wp2_with fail
      refine (known_any _).mono ?_
      rintro q w63 ⟨rfl, hb⟩
      have HBz := Lib.hid hb
      clear hb
      go_wp2_with fail
      go_ret
      exact ⟨rfl, HB.out.trans ((HBr.out.trans (HBz.out.mono (by omega))).mono (by omega))⟩
end Go.Proofs.Ytocfinhbocjbgaa.Jh
