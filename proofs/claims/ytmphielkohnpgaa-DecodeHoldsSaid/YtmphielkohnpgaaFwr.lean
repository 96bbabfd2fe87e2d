/- Proves what the specification's Write of a frame returns. Conditions: few bytes. -/
import Derived.Test.YtmphielkohnpgaaFwa
import Derived.Test.YtmphielkohnpgaaVr
import Derived.Deep.RegionHeld3
namespace Go.Proofs.Ytmphielkohnpgaa.Fw
open Go.RowKit Vm Ap Vw Va Vr Gc Fm

set_option maxRecDepth 100000 in
set_option maxHeartbeats 400000 in
theorem rwrite_ok (c : UInt8) (A : Option Addr) (p : Bs) (k : Nat) (w : World) (hA : Rb w A p) (hk : A = none → k = 0) (hp : p.length ≤ 2097152) :
    Calls Try.prog 27 #[.agg #[.int .u8 (c.toNat : Int), .slice A p.length k]] w (writePost w (wire c p) 0) := by
  have hp1 : (p.length : Int) ≤ 2097152 := by omega
  have hn : p.length + 1 < big := by unfold big; omega
  have hle := enc_le (p.length + 1) hn
  have HR : Hid (∀ w, Calls Try.prog 36 #[.int .u64 ((p.length : Int) + 1)] w (bytesPost w (encN (p.length + 1)))) := fun w => rput_any (p.length + 1) w hn
  have HA := Lib.hid hA; have HK := Lib.hid hk
  have c1 := c.toNat_lt
  have hof : UInt8.ofNat c.toNat = c := by simp
  have HC := Lib.hid (cells_one c.toNat c1)
  rw [hof] at HC
  obtain ⟨en, hen⟩ : ∃ en, en = encN (p.length + 1) := ⟨_, rfl⟩
  rw [← hen] at HR hle
  obtain ⟨ec, hec⟩ : ∃ ec, ec = en ++ [c] := ⟨_, rfl⟩
  have HWI : Hid (wire c p = ec ++ p) := by show _ = _; unfold wire; rw [hec, hen, List.append_assoc]; rfl
  have hel : ec.length ≤ 11 := by rw [hec, List.length_append]; simp; omega
  have HEC := Lib.hid hec
  clear hA hk hof hen hec hn
  obtain ⟨w0, hw0⟩ : ∃ w0, w0 = w.alloc (.cells #[.int .u8 (c.toNat : Int), .slice A p.length k] 39) := ⟨_, rfl⟩
  have B0 : Below w.heap.size w w0 := by rw [hw0]; exact alloc_below _ _
  have ca0 : w0.cell? ⟨w.heap.size, 0, none⟩ = some (.int .u8 (c.toNat : Int)) := by rw [hw0, cell_of_row _ _ 0 _ _ (0, 0) (heap_alloc_new _ _)]; rfl
  have ca1 : w0.cell? ⟨w.heap.size, 1, none⟩ = some (.slice A p.length k) := by rw [hw0, cell_of_row _ _ 1 _ _ (0, 0) (heap_alloc_new _ _)]; rfl
  have hla := World.block_lt_of_cell? _ _ ca0
  have HA0 := Lib.hid (HA.out.below B0 (Nat.le_refl _))
  have HB0 := Lib.hid B0
  have CA0 := Lib.hid ca0; have CA1 := Lib.hid ca1
  clear ca0 ca1 B0
  go_enter Try.func27, Try.ntmps27
  go_wp2_with fail
  rw [← hw0]
  clear hw0
  refine (HR.out _).mono ?_
  rintro e w1 ⟨v1, rfl, h1, b1⟩
  have H1 := Lib.hid h1
  have B1 := Lib.hid (HB0.out.trans (b1.mono HB0.out.size))
  have HA1 := Lib.hid (HA0.out.below b1 (Nat.le_refl _))
  have cx0 : w1.cell? ⟨w.heap.size, 0, none⟩ = some (.int .u8 (c.toNat : Int)) := by rw [b1.cell (p := ⟨w.heap.size, 0, none⟩) hla]; exact CA0.out
  have CX1 : Hid (w1.cell? ⟨w.heap.size, 1, none⟩ = some (.slice A p.length k)) := by show _ = _; rw [b1.cell (p := ⟨w.heap.size, 1, none⟩) hla]; exact CA1.out
  have hz1 := b1.size
  have B01 := Lib.hid b1
  clear h1 b1
  go_wp2_with (at_builtin; (refine wpList_app rfl _ _ elB rfl rfl (own_row H1.out) #[.int .u8 (c.toNat : Int)] rfl (one_cell _ _) (by omega) (by show 1 ≤ 1000000000; omega) hz1 ?_))
  intro v2 w2 h2 g2
  have H2 : Hid (Own w0.heap.size w2 v2 ec) := by
    show Own _ _ _ _
    unfold Own
    rw [HEC.out, List.map_append, HC.out, List.length_append]
    exact h2
  have b2 : Below w0.heap.size w1 w2 := (Below.refl _ _).grown g2 hz1 (fun j e => (World.ownsRow.lt H1.out j e).1)
  have B02 := Lib.hid (B01.out.trans b2)
  have cy1 : w2.cell? ⟨w.heap.size, 1, none⟩ = some (.slice A p.length k) := by rw [b2.cell (p := ⟨w.heap.size, 1, none⟩) hla]; exact CX1.out
  have HA2 := Lib.hid (HA0.out.below B02.out (Nat.le_refl _))
  have hz2 := B02.out.size
  clear h2 g2 b2 cx0
  go_wp2_with (at_builtin; (refine wpList_from rfl _ _ rfl rfl H2.out p A k rfl HK.out HA2.out (by omega) (by omega) hz2 ?_))
  intro v3 w3 h3 g3
  have H3 : Hid (Own w.heap.size w3 v3 (wire c p)) := by show Own _ _ _ _; rw [HWI.out]; exact own_base h3 HB0.out.size
  have B3 : Hid (Below w.heap.size w w3) := HB0.out.trans ((B02.out.grown g3 hz2 (fun j e => (World.ownsRow.lt H2.out j e).1)).mono HB0.out.size)
  clear h3 g3
  go_wp2_with fail
  go_ret2
  exact ⟨v3, rfl, H3.out, B3.out⟩
end Go.Proofs.Ytmphielkohnpgaa.Fw
