/- Proves what the specification's PutBytes returns. Conditions: few bytes. -/
import Derived.Test.YthlfahblnpijaaaVr
namespace Go.Proofs.Ythlfahblnpijaaa.Vrb
open Go.RowKit Vm Ap Vw Va Vr

set_option maxRecDepth 100000 in
set_option maxHeartbeats 400000 in
theorem rputB_any (C : Option Addr) (p : Bs) (d : Nat) (w : World) (hC : Rb w C p) (hd : C = none → d = 0) (hp : p.length ≤ 100000000) :
    Calls Try.prog 35 #[.slice C p.length d] w (bytesPost w (encN p.length ++ p)) := by
  have hn : p.length < big := by unfold big; omega
  have hle := enc_le p.length hn
  have HD := Lib.hid hd; clear hd
  have HRC := Lib.hid hC; clear hC
  go_enter Try.func35, Try.ntmps35
  go_wp2_with fail
  refine (rput_any p.length _ hn).mono ?_
  rintro e w2 ⟨v2, rfl, h2, b2⟩
  have H2 := Lib.hid h2; clear h2
  have B2 := Lib.hid b2; clear b2
  have hz := B2.out.size
  have R2 := Lib.hid (HRC.out.below B2.out (Nat.le_refl _))
  go_wp2_with (at_builtin; (refine wpList_from rfl _ _ rfl rfl H2.out p C d rfl HD.out R2.out (by omega) (by omega) hz ?_))
  intro v3 w3 h3 g3
  go_wp2_with fail
  go_ret
  exact ⟨_, rfl, h3, B2.out.grown g3 hz (fun j e => (World.ownsRow.lt H2.out j e).1)⟩
end Go.Proofs.Ythlfahblnpijaaa.Vrb
