/- Proves what the specification's Put returns, over the translated program: by recursion on the number. Conditions: numbers of 64 bits; few bytes. -/
import Derived.Test.YthlfahblnpijaaaBa
namespace Go.Proofs.Ythlfahblnpijaaa.Vr
open Go.RowKit Vm Ap Vw Va

theorem lit_one (w : World) (n : Nat) (h : n < 256) : Own w.heap.size (w.alloc (.cells #[.int .u8 (n : Int)] 5)) (.slice (some ⟨w.heap.size, 0, none⟩) 1 1) [UInt8.ofNat n] := by
  have := own_lit w [UInt8.ofNat n] (by simp)
  rw [cells_one n h] at this
  exact this

set_option maxRecDepth 100000 in
set_option maxHeartbeats 1000000 in
theorem rput_any (n : Nat) : ∀ (w : World), n < big → Calls Try.prog 34 #[.int .u64 (n : Int)] w (bytesPost w (encN n)) := by
  induction n using Nat.strongRecOn with
  | _ n ih =>
    intro w hn
    by_cases h : n < 128
    · have h1 : (n : Int) < 128 := by omega
      have hw : (n : Int) % 256 = n := by omega
      have HE := Lib.hid (enc_small h)
      have HL := Lib.hid (lit_one w n (by omega))
      have h0 : n < 128 := h
      clear h ih
      unfold big at hn
      go_enter Try.func34, Try.ntmps34
      go_wp2_with fail
      go_ret
      exact ⟨_, rfl, by rw [HE.out]; exact HL.out, alloc_below _ _⟩
    · have h1 : (128 : Int) ≤ (n : Int) := by omega
      have HE := Lib.hid (enc_more (show 128 ≤ n by omega))
      have hq : n / 128 < big := by unfold big at *; omega
      have HI : Hid (∀ W, Calls Try.prog 34 #[.int .u64 ((n : Int) / 128)] W (bytesPost W (encN (n / 128)))) := fun W => ih (n / 128) (by omega) W hq
      have HL : Hid (Own w.heap.size (w.alloc (.cells #[.int .u8 (128 + (n : Int) % 128)] 5)) (.slice (some ⟨w.heap.size, 0, none⟩) 1 1) [UInt8.ofNat (128 + n % 128)]) := lit_one w (128 + n % 128) (by omega)
      have HB := Lib.hid (alloc_below w (.cells #[.int .u8 (128 + (n : Int) % 128)] 5))
      have hle := enc_le _ hq
      obtain ⟨b0, hb0⟩ : ∃ b0, b0 = UInt8.ofNat (128 + n % 128) := ⟨_, rfl⟩
      rw [← hb0] at HE HL
      clear h ih hb0
      unfold big at hn hq
      go_enter Try.func34, Try.ntmps34
      go_wp2_with fail
      refine (HI.out _).mono ?_
      rintro e w1 ⟨v1, rfl, hv, hb⟩
      have H1 := Lib.hid (own_below HL.out hb (Nat.le_refl _))
      have B1 := Lib.hid (HB.out.trans (hb.mono HB.out.size))
      obtain ⟨A, c, sh⟩ := own_shape hv
      obtain rfl := sh.val
      have SH := Lib.hid sh
      have hz := B1.out.size
      clear hv hb HL HB HI sh
      go_wp2_with (at_builtin; (refine wpList_from rfl _ _ rfl rfl H1.out (encN (n / 128)) A c rfl SH.out.non SH.out.rd (by simp) (by omega) hz ?_))
      intro v3 w3 h3 g3
      go_wp2_with fail
      go_ret
      exact ⟨_, rfl, by rw [HE.out]; exact h3, B1.out.grown g3 hz (fun j e => (World.ownsRow.lt H1.out j e).1)⟩

end Go.Proofs.Ythlfahblnpijaaa.Vr
