/- Proves what the law's spoil does: it writes only to the blocks of the response that it is given. Conditions: the response's rows may be written. -/
import Derived.Test.YthlfahblnpijaaaSjb
namespace Go.Proofs.Ythlfahblnpijaaa.Sjc
open Go.RowKit Vm Ap Vw Va Gc Mi Mb Qm Sm Se So Sjb

/-- Blocks from B on, before N. -/
def Mid (B N : Nat) (j : Nat) : Prop := B ≤ j ∧ j < N
/-- A response whose rows may be written; what its cells hold is of their types. -/
structure Wr (w : World) (y : Res) : Prop where
  it : ∀ j (h : j < y.items.length), ∃ g q, y.IA = some ⟨g, q, none⟩ ∧ w.cell? ⟨g, q + j * 4 + 1, none⟩ = some (.slice y.items[j].A y.items[j].i.value.length y.items[j].k) ∧ (∃ v : Nat, v < 18446744073709551616 ∧ w.cell? ⟨g, q + j * 4 + 2, none⟩ = some (.int .u64 (v : Int))) ∧ w.frozen? ⟨g, q + j * 4 + 2, none⟩ = false
  va : ∀ z ∈ y.items, ∀ k, k < z.i.value.length → ∃ g q, z.A = some ⟨g, q, none⟩ ∧ (∃ b : Nat, b < 256 ∧ w.cell? ⟨g, q + k, none⟩ = some (.int .u8 (b : Int))) ∧ w.frozen? ⟨g, q + k, none⟩ = false
  nu : ∀ k, k < y.numbers.length → ∃ g q, y.NA = some ⟨g, q, none⟩ ∧ (∃ v : Nat, v < 18446744073709551616 ∧ w.cell? ⟨g, q + k, none⟩ = some (.int .u64 (v : Int))) ∧ w.frozen? ⟨g, q + k, none⟩ = false
  d1 : ∀ z ∈ y.items, ∀ a, z.A = some a → (∀ b, y.IA = some b → a.block ≠ b.block) ∧ (∀ b, y.NA = some b → a.block ≠ b.block)
  d2 : ∀ a b, y.IA = some a → y.NA = some b → a.block ≠ b.block
theorem far {w : World} {p a : Addr} {v : Value} (h : p.block ≠ a.block) : (w.setCell p v).cell? a = w.cell? a := World.cell?_setCell_other w p a v (fun e => h (by rw [e]))
theorem offs {w : World} {g i j : Nat} {v : Value} (h : i ≠ j) : (w.setCell ⟨g, i, none⟩ v).cell? ⟨g, j, none⟩ = w.cell? ⟨g, j, none⟩ := World.cell?_setCell_other w _ _ v (fun e => h (by injection e))
/-- One cell of the row is written. -/
theorem Wr.put {w : World} {y : Res} (h : Wr w y) (g i : Nat) (u : Value)
    (h1 : ∀ g' q j, y.IA = some ⟨g', q, none⟩ → j < y.items.length → g' = g → q + j * 4 + 1 ≠ i ∧ (q + j * 4 + 2 = i → ∃ v : Nat, v < 18446744073709551616 ∧ u = .int .u64 (v : Int)))
    (h2 : ∀ z ∈ y.items, ∀ g' q, z.A = some ⟨g', q, none⟩ → g' = g → ∃ b : Nat, b < 256 ∧ u = .int .u8 (b : Int))
    (h3 : ∀ g' q, y.NA = some ⟨g', q, none⟩ → g' = g → ∃ v : Nat, v < 18446744073709551616 ∧ u = .int .u64 (v : Int)) : Wr (w.setCell ⟨g, i, none⟩ u) y := by
  refine ⟨fun j hj => ?_, fun z hz k hk => ?_, fun k hk => ?_, h.d1, h.d2⟩
  · obtain ⟨g', q, e, c1, ⟨v, hv, c2⟩, f⟩ := h.it j hj
    obtain ⟨n1, n2⟩ := (fun hg => h1 g' q j e hj hg : g' = g → _)  |> fun f => (⟨fun hg => (f hg).1, fun hg => (f hg).2⟩ : (g' = g → q + j * 4 + 1 ≠ i) ∧ (g' = g → (q + j * 4 + 2 = i → ∃ v : Nat, v < 18446744073709551616 ∧ u = .int .u64 (v : Int))))
    refine ⟨g', q, e, ?_, ?_, by rw [World.frozen?_setCell]; exact f⟩
    · by_cases hg : g' = g
      · subst hg
        rw [offs (fun e => n1 rfl e.symm)]; exact c1
      · rw [far (fun e => hg e.symm)]; exact c1
    · by_cases hg : g' = g
      · subst hg
        by_cases hi : q + j * 4 + 2 = i
        · obtain ⟨v', hv', eu⟩ := n2 rfl hi
          refine ⟨v', hv', ?_⟩
          rw [← hi, World.cell?_setCell_same _ _ _ c2, eu]
        · exact ⟨v, hv, by rw [offs (fun e => hi e.symm)]; exact c2⟩
      · exact ⟨v, hv, by rw [far (fun e => hg e.symm)]; exact c2⟩
  · obtain ⟨g', q, e, ⟨b, hb, c⟩, f⟩ := h.va z hz k hk
    refine ⟨g', q, e, ?_, by rw [World.frozen?_setCell]; exact f⟩
    by_cases hg : g' = g
    · subst hg
      by_cases hi : q + k = i
      · obtain ⟨b', hb', eu⟩ := h2 z hz g' q e rfl
        exact ⟨b', hb', by rw [← hi, World.cell?_setCell_same _ _ _ c, eu]⟩
      · exact ⟨b, hb, by rw [offs (fun e => hi e.symm)]; exact c⟩
    · exact ⟨b, hb, by rw [far (fun e => hg e.symm)]; exact c⟩
  · obtain ⟨g', q, e, ⟨v, hv, c⟩, f⟩ := h.nu k hk
    refine ⟨g', q, e, ?_, by rw [World.frozen?_setCell]; exact f⟩
    by_cases hg : g' = g
    · subst hg
      by_cases hi : q + k = i
      · obtain ⟨v', hv', eu⟩ := h3 g' q e rfl
        exact ⟨v', hv', by rw [← hi, World.cell?_setCell_same _ _ _ c, eu]⟩
      · exact ⟨v, hv, by rw [offs (fun e => hi e.symm)]; exact c⟩
    · exact ⟨v, hv, by rw [far (fun e => hg e.symm)]; exact c⟩
theorem Wr.setV {w : World} {y : Res} (h : Wr w y) {z : Im} (hz : z ∈ y.items) {g q : Nat} (e : z.A = some ⟨g, q, none⟩) (k b : Nat) (hb : b < 256) : Wr (w.setCell ⟨g, q + k, none⟩ (.int .u8 (b : Int))) y := by
  obtain ⟨n1, n2⟩ := h.d1 z hz _ e
  exact h.put g _ _ (fun _ _ _ e' _ hg => absurd hg.symm (n1 _ e')) (fun _ _ _ _ _ _ => ⟨b, hb, rfl⟩) (fun _ _ e' hg => absurd hg.symm (n2 _ e'))
theorem Wr.setI {w : World} {y : Res} (h : Wr w y) {g q : Nat} (e : y.IA = some ⟨g, q, none⟩) (k v : Nat) (hv : v < 18446744073709551616) : Wr (w.setCell ⟨g, q + k * 4 + 2, none⟩ (.int .u64 (v : Int))) y :=
  h.put g _ _ (fun _ _ _ e' _ _ => by
      rw [e] at e'
      injection e' with e'
      injection e' with e1 e2
      subst e2
      exact ⟨by omega, fun _ => ⟨v, hv, rfl⟩⟩)
    (fun z hz _ _ e' hg => absurd hg ((h.d1 z hz _ e').1 _ e)) (fun _ _ e' hg => absurd hg.symm (h.d2 _ _ e e'))
theorem Wr.setN {w : World} {y : Res} (h : Wr w y) {g q : Nat} (e : y.NA = some ⟨g, q, none⟩) (k v : Nat) (hv : v < 18446744073709551616) : Wr (w.setCell ⟨g, q + k, none⟩ (.int .u64 (v : Int))) y :=
  h.put g _ _ (fun _ _ _ e' _ hg => absurd hg (h.d2 _ _ e' e)) (fun z hz _ _ e' hg => absurd hg ((h.d1 z hz _ e').2 _ e)) (fun _ _ _ _ => ⟨v, hv, rfl⟩)
theorem wr_cpy {K : Nat} {w : World} {y : Res} (h : CpS K w y) (hb : BndS y) : Wr w y := by
  refine ⟨fun j hj => ?_, fun z hz k hk => ?_, fun k hk => ?_, fun z hz => (h.mv z hz).2, h.ne⟩
  · obtain ⟨g, q, e, _, hc⟩ := (ri_mine h.mi) (by omega)
    obtain ⟨c0, c1, c2, c3⟩ := hc j hj
    obtain ⟨g', q', e', _, _, h3, _⟩ := h.mi.lies _ e
    injection e' with e1 e2
    subst e1; subst e2
    have hf := (h3 (j * 4 + 2) (by have := h.mi.le; omega)).2
    rw [show q + (j * 4 + 2) = q + j * 4 + 2 from by omega] at hf
    exact ⟨g, q, e, c1, ⟨_, (hb.each _ (List.getElem_mem hj)).2.2.1, c2⟩, hf⟩
  · have hm := (h.mv z hz).1
    obtain ⟨g, q, e, _, hc⟩ := (rb_mine hm) (by omega)
    obtain ⟨g', q', e', _, _, h3, _⟩ := hm.lies _ e
    injection e' with e1 e2
    subst e1; subst e2
    have hf := (h3 k (by have := hm.le; omega)).2
    exact ⟨g, q, e, ⟨_, (z.i.value[k]).toNat_lt, hc k hk⟩, hf⟩
  · obtain ⟨g, q, e, _, hc⟩ := (rn_mine h.mn) (by omega)
    obtain ⟨g', q', e', _, _, h3, _⟩ := Mine.lies h.mn _ e
    injection e' with e1 e2
    subst e1; subst e2
    have hf := (h3 k (by have := Mine.le h.mn; omega)).2
    exact ⟨g, q, e, ⟨_, hb.nums _ (List.getElem_mem hk), hc k hk⟩, hf⟩
theorem Wr.only {w w' : World} {y : Res} (h : Wr w y) (hb : Below w.heap.size w w') : Wr w' y := by
  have hc : ∀ a u, w.cell? a = some u → w'.cell? a = some u := fun a u e => by rw [hb.cell (World.block_lt_of_cell? w a e)]; exact e
  have hf : ∀ (a : Addr) u, w.cell? a = some u → w'.frozen? a = w.frozen? a := fun a u e => hb.frozen (World.block_lt_of_cell? w a e)
  refine ⟨fun j hj => ?_, fun z hz k hk => ?_, fun k hk => ?_, h.d1, h.d2⟩
  · obtain ⟨g, q, e, c1, ⟨v, hv, c2⟩, f⟩ := h.it j hj
    exact ⟨g, q, e, hc _ _ c1, ⟨v, hv, hc _ _ c2⟩, by rw [hf _ _ c2]; exact f⟩
  · obtain ⟨g, q, e, ⟨v, hv, c2⟩, f⟩ := h.va z hz k hk
    exact ⟨g, q, e, ⟨v, hv, hc _ _ c2⟩, by rw [hf _ _ c2]; exact f⟩
  · obtain ⟨g, q, e, ⟨v, hv, c2⟩, f⟩ := h.nu k hk
    exact ⟨g, q, e, ⟨v, hv, hc _ _ c2⟩, by rw [hf _ _ c2]; exact f⟩
def spoilPost (B N : Nat) (w : World) : Ending → World → Prop := fun e w' => e = .returned (.tuple #[]) ∧ Only (Mid B N) w w'
/-- A response's blocks lie between. -/
structure In (B N : Nat) (y : Res) : Prop where
  i : ∀ a, y.IA = some a → Mid B N a.block
  v : ∀ z ∈ y.items, ∀ a, z.A = some a → Mid B N a.block
  n : ∀ a, y.NA = some a → Mid B N a.block
set_option maxRecDepth 100000 in
set_option maxHeartbeats 8000000 in
theorem spoil_any (B N : Nat) (y : Res) (w : World) (hw : Wr w y) (hb : BndS y) (hin : In B N y) (hN : N ≤ w.heap.size) :
    Calls Try.prog 17 #[resV y] w (spoilPost B N w) := by
  obtain ⟨C, hC⟩ : ∃ C, C = w.heap.size := ⟨_, rfl⟩
  obtain ⟨w0, hw0⟩ : ∃ w0, w0 = w.alloc (resO y) := ⟨_, rfl⟩
  have bx : BoxS w0 C y := by rw [hw0, hC]; exact BoxS.new _ _
  have hs0 : w0.heap.size = C + 1 := by rw [hw0, hC]; simp
  have HO0 : Hid (Only (Mid B N) w w0) := by show Only _ _ _; rw [hw0]; exact (Only.refl _ _).alloc _
  have HW0 : Hid (Wr w0 y) := by show Wr _ _; rw [hw0]; exact hw.only (alloc_below _ _)
  have HIN := Lib.hid hin
  have HX : Hid (∀ v, Only (Mid B N) w0 v → BoxS v C y) := fun v h => bx.only h (fun hm => by have := hm.2; omega)
  have z1 := hb.items; have z2 := hb.numbers
  have HV := Lib.hid (fun z (hz : z ∈ y.items) => (hb.each z hz).2.1)
  obtain ⟨c0, c1, c2, c3, c4, c5, _⟩ := bx
  unfold resV
  unfold resO at hw0
  clear hw hb hin hN hs0
  go_enter Try.func17, Try.ntmps17
  go_upto_region 1 with fail
  rw [← hw0, ← hC]
  clear hw0 hC c0 c1 c3 c4 c5
  go_wp2_with fail
  go_loopw [2, 8] (fun _ i wr => ∃ k : Nat, k ≤ y.items.length ∧ i = .int .i64 (k : Int) ∧ Wr wr y ∧ Only (Mid B N) w0 wr) (fun _ i _ => y.items.length - (intOf i).toNat)
  case atStart => exact ⟨0, Nat.zero_le _, rfl, HW0.out, Only.refl _ _⟩
  case round =>
    obtain ⟨k, hkl, rfl, hwr, hon⟩ := hrel
    obtain ⟨wo, rfl⟩ : ∃ wo : World, wo = wr := ⟨_, rfl⟩
    have HWR := Lib.hid hwr
    have HON := Lib.hid hon
    obtain ⟨_, _, x2, _, _, x5, _⟩ := HX.out wo hon
    clear hwr hon c2
    by_cases hlt : k < y.items.length
    · have i1 : (k : Int) < y.items.length := by omega
      obtain ⟨g, q, eA, y1, _, _⟩ := HWR.out.it k hlt
      have HEA := Lib.hid eA
      have HIT := Lib.hid (fun W (h : Wr W y) => h.it k hlt)
      have HMZ : Hid (y.items[k] ∈ y.items) := List.getElem_mem hlt
      have hzl := HV.out _ HMZ.out
      obtain ⟨z, hz⟩ : ∃ z, z = y.items[k] := ⟨_, rfl⟩
      rw [← hz] at HMZ hzl y1 HIT
      rw [eA] at x2
      rw [eA]
      clear hz x5
      go_wp2_with fail
      clear y1 x2
      go_loopw [3, 18] (fun _ i wr => ∃ m : Nat, m ≤ z.i.value.length ∧ i = .int .i64 (m : Int) ∧ Wr wr y ∧ Only (Mid B N) w0 wr) (fun _ i _ => z.i.value.length - (intOf i).toNat)
      case atStart => exact ⟨0, Nat.zero_le _, rfl, HWR.out, HON.out⟩
      case round =>
        obtain ⟨m, hml, rfl, hwr2, hon2⟩ := hrel
        obtain ⟨wi, rfl⟩ : ∃ wi : World, wi = wr := ⟨_, rfl⟩
        have HWI := Lib.hid hwr2
        have HOI := Lib.hid hon2
        obtain ⟨_, _, x2, _, _, _, _⟩ := HX.out wi hon2
        rw [eA] at x2
        obtain ⟨g', q', eA', y1, ⟨v, hv, y2⟩, f2⟩ := HIT.out wi hwr2
        have e3 : (⟨g', q', none⟩ : Addr) = ⟨g, q, none⟩ := by rw [eA] at eA'; injection eA' with eA'; exact eA'.symm
        injection e3 with e4 e5
        subst e4; subst e5
        clear hwr2 hon2 eA'
        by_cases hm : m < z.i.value.length
        · have i2 : (m : Int) < z.i.value.length := by omega
          obtain ⟨zg, zq, eZ, ⟨b, hb, y3⟩, f3⟩ := HWI.out.va z HMZ.out m hm
          have HEZ := Lib.hid eZ
          rw [eZ] at y1
          have e256 : ((b : Int) + 1) % 256 = (((b + 1) % 256 : Nat) : Int) := by omega
          have E256 := Lib.hid e256
          clear e256 y2 f2 eZ eA hv
          go_wp2_with fail
          go_roundw
          case rel => exact ⟨m + 1, by omega, by go_num, by rw [E256.out]; exact HWI.out.setV HMZ.out HEZ.out m _ (by omega), HOI.out.put (ad := ⟨zg, zq + m, none⟩) (show Mid B N zg from HIN.out.v z HMZ.out _ HEZ.out) _⟩
          case measure => simp [intOf]; omega
        · obtain rfl : m = z.i.value.length := by omega
          have hnn : ¬ (z.i.value.length : Int) < z.i.value.length := by omega
          have e64 : IntKind.u64.wrap ((v : Int) + 1) = (((v + 1) % 18446744073709551616 : Nat) : Int) := by rw [IntKind.wrap_u64]; omega
          have E64 := Lib.hid e64
          clear e64 eA
          go_wp2_with fail
          go_roundw
          case rel => exact ⟨k + 1, by omega, by go_num, by rw [E64.out]; exact HWI.out.setI HEA.out k _ (by omega), HOI.out.put (ad := ⟨g', q' + k * 4 + 2, none⟩) (show Mid B N g' from HIN.out.i _ HEA.out) _⟩
          case measure => simp [intOf]; omega
    · obtain rfl : k = y.items.length := by omega
      have hnn : ¬ (y.items.length : Int) < y.items.length := by omega
      clear x2
      go_wp2_with fail
      clear x5
      go_loopw [4, 46] (fun _ i wr => ∃ k : Nat, k ≤ y.numbers.length ∧ i = .int .i64 (k : Int) ∧ Wr wr y ∧ Only (Mid B N) w0 wr) (fun _ i _ => y.numbers.length - (intOf i).toNat)
      case atStart => exact ⟨0, Nat.zero_le _, rfl, HWR.out, HON.out⟩
      case round =>
        obtain ⟨m, hml, rfl, hwr2, hon2⟩ := hrel
        obtain ⟨wi, rfl⟩ : ∃ wi : World, wi = wr := ⟨_, rfl⟩
        have HWI := Lib.hid hwr2
        have HOI := Lib.hid hon2
        obtain ⟨_, _, _, _, _, x5, _⟩ := HX.out wi hon2
        clear hwr2 hon2
        by_cases hm : m < y.numbers.length
        · have i2 : (m : Int) < y.numbers.length := by omega
          obtain ⟨g, q, eA, ⟨v, hv, y2⟩, f2⟩ := HWI.out.nu m hm
          have HEA := Lib.hid eA
          rw [eA] at x5
          have e64 : IntKind.u64.wrap ((v : Int) + 1) = (((v + 1) % 18446744073709551616 : Nat) : Int) := by rw [IntKind.wrap_u64]; omega
          have E64 := Lib.hid e64
          clear e64 eA hv
          go_wp2_with fail
          go_roundw
          case rel => exact ⟨m + 1, by omega, by go_num, by rw [E64.out]; exact HWI.out.setN HEA.out m _ (by omega), HOI.out.put (ad := ⟨g, q + m, none⟩) (show Mid B N g from HIN.out.n _ HEA.out) _⟩
          case measure => simp [intOf]; omega
        · obtain rfl : m = y.numbers.length := by omega
          have hnn : ¬ (y.numbers.length : Int) < y.numbers.length := by omega
          go_wp2_with fail
          exact bodyPost_ret (v := .tuple #[]) (by simp [results, Try.results17, go_sem]) rfl ⟨rfl, HO0.out.trans (HOI.out.mono (fun j _ hj => Or.inl hj))⟩
end Go.Proofs.Ythlfahblnpijaaa.Sjc
