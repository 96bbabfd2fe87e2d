/- Proves what PutBytes returns, over the translated program. Conditions: few bytes. -/
import Derived.Test.YthlfahblnpijaaaDoorVa
namespace Go.Proofs.YthlfahblnpijaaaDoor.Vab
open Go.RowKit Vm Ap Vw Va

set_option maxRecDepth 100000 in
set_option maxHeartbeats 400000 in
theorem putB_any (A C : Option Addr) (l p : Bs) (c d : Nat) (w : World) (hA : Rb w A l) (hc : A = none → c = 0) (hl : l.length ≤ 100000000) (hC : Rb w C p) (hd : C = none → d = 0) (hp : p.length ≤ 100000000) :
    Calls Tryd.prog 80 #[.slice A l.length c, .slice C p.length d] w (bytesPost w (l ++ (encN p.length ++ p))) := by
  have hn : p.length < big := by unfold big; omega
  have hle := enc_le p.length hn
  have HC := Lib.hid hc; clear hc
  have HD := Lib.hid hd; clear hd
  have HRC := Lib.hid hC; clear hC
  go_enter Tryd.func80, Tryd.ntmps80
  go_wp2_with fail
  refine (size_any p.length _ hn).mono ?_
  rintro e w' ⟨rfl, rfl⟩
  go_wp2_with fail
  rw [← Int.natCast_add]
  refine (join_any A l c _ _ hA HC.out hl (by omega)).mono ?_
  rintro e w1 ⟨v1, rfl, h1, b1⟩
  have H1 := Lib.hid h1; clear h1
  have B1 := Lib.hid b1; clear b1
  go_wp2_with fail
  refine (add_any _ v1 l p.length _ H1.out B1.out.size (by omega) hn).mono ?_
  rintro e w2 ⟨v2, rfl, h2, b2⟩
  have H2 := Lib.hid h2; clear h2
  have B2 := Lib.hid (B1.out.trans b2); clear b2
  have hz := B2.out.size
  have R2 := Lib.hid (HRC.out.below B2.out (Nat.le_refl _))
  have hx : (l ++ encN p.length).length ≤ 1000000000 := by rw [List.length_append]; omega
  go_wp2_with (at_builtin; (refine wpList_from rfl _ _ rfl rfl H2.out p C d rfl HD.out R2.out hx (by omega) hz ?_))
  intro v3 w3 h3 g3
  go_wp2_with fail
  go_ret
  exact ⟨_, rfl, h3, B2.out.grown g3 hz (fun j e => (World.ownsRow.lt H2.out j e).1)⟩
end Go.Proofs.YthlfahblnpijaaaDoor.Vab
