/- Proves what Size and Put return, over the translated program: a number's encoding is appended to the call's own row. Conditions: numbers of 64 bits; few bytes. -/
import Derived.Test.YthlfahblnpijaaaDoorBa
namespace Go.Proofs.YthlfahblnpijaaaDoor.Va
open Go.RowKit Vm Ap Vw


set_option maxRecDepth 100000 in
set_option maxHeartbeats 400000 in
theorem size_any (n : Nat) (w : World) (h : n < big) :
    Calls Tryd.prog 33 #[.int .u64 (n : Int)] w fun e w' => e = .returned (.int .i64 ((encN n).length : Int)) ∧ w = w' := by
  have HO := Lib.hid (or_num n h)
  have ho : n ||| 1 < big := (or_one n).2.2 64 (by omega) h
  have HS := Lib.hid (size_eq n h)
  have hl : Lib.bitLen (n ||| 1) ≤ 64 := Lib.bitLen_le _ 64 (by omega) ho
  go_enter Tryd.func33, Tryd.ntmps33
  go_wp2_with fail
  rw [HO.out]
  refine (Tryd.bits_Len64 ((n ||| 1 : Nat) : Int) _ (by omega) (by unfold big at ho; omega)).mono ?_
  rintro e w' ⟨rfl, rfl⟩
  rw [Int.toNat_natCast]
  go_wp2_with fail
  go_ret
  refine ⟨ret_i ?_, rfl⟩
  rw [← HS.out]
  omega
set_option maxRecDepth 100000 in
set_option maxHeartbeats 400000 in
theorem join_any (A : Option Addr) (l : Bs) (c room : Nat) (w : World) (hA : Rb w A l) (hn : A = none → c = 0) (hl : l.length ≤ 100000000) (hr : room ≤ 400000000) :
    Calls Tryd.prog 47 #[.slice A l.length c, .int .i64 (room : Int)] w (bytesPost w l) := by
  obtain ⟨v1, w1, hmk, hown, hg⟩ := make_own (l.length + room) w (by omega)
  rw [Int.natCast_add] at hmk
  have HO := Lib.hid hown
  have hz := hg.size
  have hb1 : Below w.heap.size w w1 := below_of_grown hg (Nat.le_refl _) (by intro k e; cases e)
  have HA := Lib.hid (hA.below hb1 (Nat.le_refl _))
  have HB := Lib.hid hb1
  have HN := Lib.hid hn
  clear hown hg hb1 hA hn
  go_enter Tryd.func47, Tryd.ntmps47
  go_wp2_with (at_builtin; (refine wpList_from rfl _ _ rfl rfl HO.out l A c rfl HN.out HA.out (by simp) (by omega) hz ?_))
  intro v2 w2 h2 g2
  clear hmk
  go_wp2_with fail
  go_ret
  exact ⟨_, rfl, h2, HB.out.grown g2 hz (fun k e => (World.ownsRow.lt HO.out k e).1)⟩
/-- What a number's encoding appends to a row of the call's own. -/
def addPost (B : Nat) (w : World) (l : Bs) (n : Nat) : Ending → World → Prop := fun e w' => ∃ v', e = .returned v' ∧ Own B w' v' (l ++ encN n) ∧ Below B w w'
set_option maxRecDepth 100000 in
set_option maxHeartbeats 1000000 in
theorem add_any (B : Nat) (v : Value) (l : Bs) (n : Nat) (w : World) (hown : Own B w v l) (hB : B ≤ w.heap.size) (hl : l.length ≤ 200000000) (hn : n < big) :
    Calls Tryd.prog 46 #[v, .int .u64 (n : Int)] w (addPost B w l n) := by
  have HO := Lib.hid hown; clear hown
  have hle := enc_le n hn
  unfold big at hn
  go_enter Tryd.func46, Tryd.ntmps46
  go_wp2_with fail
  go_loopw [0, 1, 5, 6, 7, 8, 9, 10, 11, 12, 13, 14] (fun u m _ _ _ _ _ _ _ _ _ _ wr => ∃ (k : Nat) (d : Bs), m = .int .u64 (k : Int) ∧ k ≤ n ∧ Own B wr u (l ++ d) ∧ d ++ encN k = encN n ∧ Below B w wr) (fun _ m _ _ _ _ _ _ _ _ _ _ _ => (intOf m).toNat)
  case atStart => exact ⟨n, [], rfl, Nat.le_refl _, by rw [List.append_nil]; exact HO.out, rfl, Below.refl _ _⟩
  case round =>
    obtain ⟨k, d, rfl, hk, hown, hd, hbel⟩ := hrel
    have hlen : d.length ≤ 10 := by have := congrArg List.length hd; rw [List.length_append] at this; omega
    have HD := Lib.hid hd; clear hd
    have hx : (l ++ d).length ≤ 1000000000 := by rw [List.length_append]; omega
    have H1 := Lib.hid hown; clear hown
    have hz : B ≤ wr.heap.size := Nat.le_trans hB hbel.size
    have HB := Lib.hid hbel; clear hbel
    by_cases h : 128 ≤ k
    · have h1 : (128 : Int) ≤ (k : Int) := by omega
      have HE := Lib.hid (enc_more h)
      have HL := Lib.hid (or_byte k)
      clear h
      go_wp2_with (at_builtin; (refine wpList_app rfl _ _ elB rfl rfl (own_row H1.out) #[.int .u8 (bits .or .u8 ((k : Int) % 256) 128)] rfl (one_cell _ _) hx (by show 1 ≤ 1000000000; omega) hz ?_))
      intro v2 w2 h2 g2
      have H2 : Hid (Own B w2 v2 (l ++ (d ++ [UInt8.ofNat (128 + k % 128)]))) := by
        have e : bits .or .u8 ((k : Int) % 256) 128 = ((128 + k % 128 : Nat) : Int) := HL.out
        rw [e] at h2
        exact own_snoc (by omega) h2
      have HB2 := Lib.hid (HB.out.grown g2 hz (fun j e => (World.ownsRow.lt H1.out j e).1))
      clear h2 g2
      go_wp2_with fail
      go_roundw
      case rel => exact ⟨k / 128, d ++ [UInt8.ofNat (128 + k % 128)], by go_num, by omega, H2.out, by rw [List.append_assoc, ← HD.out, HE.out]; rfl, HB2.out⟩
      case measure => simp [intOf]; omega
    · have h1 : (k : Int) < 128 := by omega
      have hw : (k : Int) % 256 = k := by omega
      have HE := Lib.hid (enc_small (show k < 128 by omega))
      have h0 : k < 128 := by omega
      clear h
      go_wp2_with (at_builtin; (refine wpList_app rfl _ _ elB rfl rfl (own_row H1.out) #[.int .u8 (k : Int)] rfl (one_cell _ _) hx (by show 1 ≤ 1000000000; omega) hz ?_))
      intro v2 w2 h2 g2
      have H2 : Hid (Own B w2 v2 (l ++ encN n)) := by
        show Own _ _ _ _
        rw [← HD.out, HE.out]
        exact own_snoc (by omega) h2
      have HB2 := Lib.hid (HB.out.grown g2 hz (fun j e => (World.ownsRow.lt H1.out j e).1))
      clear h2 g2
      go_wp2_with fail
      go_ret
      exact ⟨_, rfl, H2.out, HB2.out⟩
set_option maxRecDepth 100000 in
set_option maxHeartbeats 400000 in
theorem put_any (A : Option Addr) (l : Bs) (c n : Nat) (w : World) (hA : Rb w A l) (hc : A = none → c = 0) (hl : l.length ≤ 100000000) (hn : n < big) :
    Calls Tryd.prog 28 #[.slice A l.length c, .int .u64 (n : Int)] w (bytesPost w (l ++ encN n)) := by
  have hle := enc_le n hn
  have HC := Lib.hid hc; clear hc
  go_enter Tryd.func28, Tryd.ntmps28
  go_wp2_with fail
  refine (size_any n _ hn).mono ?_
  rintro e w' ⟨rfl, rfl⟩
  go_wp2_with fail
  refine (join_any A l c _ _ hA HC.out hl (by omega)).mono ?_
  rintro e w1 ⟨v1, rfl, h1, b1⟩
  have H1 := Lib.hid h1; clear h1
  have B1 := Lib.hid b1; clear b1
  go_wp2_with fail
  refine (add_any _ v1 l n _ H1.out B1.out.size (by omega) hn).mono ?_
  rintro e w2 ⟨v2, rfl, h2, b2⟩
  go_wp2_with fail
  go_ret
  exact ⟨_, rfl, h2, B1.out.trans b2⟩
end Go.Proofs.YthlfahblnpijaaaDoor.Va
