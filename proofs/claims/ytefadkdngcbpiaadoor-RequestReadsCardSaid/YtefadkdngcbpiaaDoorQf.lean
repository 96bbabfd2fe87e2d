/- Proves what package request's Write returns. Conditions: the table is laid; a command of bounded parts. -/
import Derived.Test.YtefadkdngcbpiaaDoorQpc
import Derived.Test.YtefadkdngcbpiaaDoorQw
import Derived.Deep.RegionHeld3
namespace Go.Proofs.YtefadkdngcbpiaaDoor.Qf
open Go.RowKit Vm Ap Vw Va Vab Gc Mi Mb Qm Qs Qe Qn Qp Qw

/-- What Write leaves: a frame in new memory, or an error. -/
def wrPost (w : World) (code : Int) (l : Bs) (n : Int) : Ending → World → Prop := fun e w' =>
  ∃ A k, e = .returned (.tuple #[.agg #[.int .u8 code, .slice A l.length k], .int .i64 n]) ∧ Fre w.heap.size w' A l k ∧ Below w.heap.size w w'
def wrC (c : Cmd) : Int := if validG c then c.op else 0
def wrP (c : Cmd) : Bs := if validG c then payR c else []
def wrE (c : Cmd) : Int := if validG c then 0 else 2
theorem valid_in {c : Cmd} (h : validG c = true) : inOp c.op = true := by
  unfold validG at h; rw [Bool.and_eq_true] at h; exact h.1
/-- What holds from the world w1 on: nothing but the block behind b has changed, and this is a block of two cells that may be written. -/
def WS (w1 : World) (b : Nat) (W : World) : Prop := Only (fun j => j = b + 1) w1 W ∧ ∃ p q, Cel W (b + 1) p q
theorem _root_.Go.Proofs.YtefadkdngcbpiaaDoor.Gc.Cel.drew {w : World} {g : Nat} {x y : Value} (h : Cel w g x y) : Cel w.drew g x y := ⟨h.c0, h.c1, h.f0, h.f1⟩
theorem WS.below {w1 W W' : World} {b : Nat} (h : WS w1 b W) (hb : Below W.heap.size W W') : WS w1 b W' := by
  obtain ⟨h1, p, q, h2⟩ := h
  exact ⟨h1.trans (Only.of_below hb (Nat.le_refl _) _), p, q, h2.below hb (Nat.le_refl _)⟩
theorem WS.set {w1 W : World} {b : Nat} (h : WS w1 b W) (x y : Value) : WS w1 b ((W.setCell ⟨b + 1, 0, none⟩ x).setCell ⟨b + 1, 1, none⟩ y) := by
  obtain ⟨h1, p, q, h2⟩ := h
  exact ⟨(h1.put rfl _).put rfl _, x, y, h2.set x y⟩
theorem WS.box {w1 W : World} {b : Nat} {x : Com} (h : WS w1 b W) (hx : Box w1 b x) : Box W b x := hx.only h.1 (by omega)
set_option maxRecDepth 100000 in
set_option maxHeartbeats 2000000 in
theorem write_any (x : Com) (w : World) (he : Env w) (hr : Rc w x) (hb : Bnd x.c) (hK : x.c.keys.length ≤ 40) (hT : x.c.tags.length ≤ 40) :
    Calls Tryd.prog 20 #[comV x] w (wrPost w (wrC x.c) (wrP x.c) (wrE x.c)) := by
  unfold comV
  obtain ⟨w0, hw0⟩ : ∃ w0, w0 = (w.alloc (comO x)).alloc (.cells #[.int .u8 0, .slice none 0 0] 42) := ⟨_, rfl⟩
  have B0 : Below w.heap.size w w0 := by rw [hw0]; exact two_below _ _ _
  have HB0 := Lib.hid B0
  have bx : Box w0 w.heap.size x := by rw [hw0]; exact (Box.new w x).below (alloc_below _ _) (Nat.le_refl _)
  have ce : Cel w0 (w.heap.size + 1) (.int .u8 0) (.slice none 0 0) := by
    have h := Cel.new (w.alloc (comO x)) (.int .u8 0) (.slice none 0 0) 42
    have e : (w.alloc (comO x)).heap.size = w.heap.size + 1 := by simp
    rw [e] at h
    rw [hw0]; exact h
  have HE := Lib.hid (he.below B0 (Nat.le_refl _))
  have HR := Lib.hid (hr.below B0 (Nat.le_refl _))
  have HBD := Lib.hid hb
  have HV := Lib.hid (valid_any x w0 HE.out HR.out hb)
  have BX := Lib.hid bx
  have CE := Lib.hid ce
  unfold comV at HV
  obtain ⟨c0, c1, c2, c3, c4, c5, c6, c7, c8, c9, _⟩ := bx
  unfold comO at hw0
  clear B0 hb ce
  by_cases h : validG x.c = true
  · have H1 : Hid (wrC x.c = x.c.op ∧ wrP x.c = payR x.c ∧ wrE x.c = 0) := by show _ ∧ _; unfold wrC wrP wrE; simp [h]
    have hin := valid_in h
    have HH := Lib.hid h
    have hop : 1 ≤ x.c.op ∧ x.c.op ≤ 15 := by obtain ⟨k, hk, e, _⟩ := in_cases hin; omega
    obtain ⟨o1, o2⟩ := hop
    have HP : Hid (∀ W, Below w.heap.size w W → Calls Tryd.prog 40 #[comV x] W (bytesPost W (payR x.c))) := fun W b => payload_any x W (he.below b (Nat.le_refl _)) (hr.below b (Nat.le_refl _)) HBD.out hK hT hin
    unfold comV at HP
    rw [H1.out.1, H1.out.2.1, H1.out.2.2]
    generalize payR x.c = l at *
    clear h hin H1 he hr
    go_enter Tryd.func20, Tryd.ntmps20
    go_wp2_with fail
    rw [← hw0]
    clear hw0
    refine HV.out.mono ?_
    rintro e w1 ⟨rfl, b1⟩
    have B1 := Lib.hid b1
    obtain ⟨c0, c1, c2, c3, c4, c5, c6, c7, c8, c9, _⟩ := BX.out.below b1 (Nat.le_refl _)
    rw [HH.out]
    clear b1
    go_wp2_with fail
    obtain ⟨w0b, hwb⟩ : ∃ b, b = w.heap.size := ⟨_, rfl⟩
    have CE1 := Lib.hid (CE.out.below B1.out (Nat.le_refl _))
    have bx1 := BX.out.below B1.out (Nat.le_refl _)
    have FB : Hid (∀ W, WS w1 w0b W → Below w.heap.size w W) := fun W h => (HB0.out.trans (B1.out.mono HB0.out.size)).trans (h.1.below (fun j e => by omega) (Nat.le_trans HB0.out.size B1.out.size))
    rw [← hwb] at c0 c1 c2 c3 c4 c5 c6 c7 c8 c9 CE1 bx1 ⊢
    clear hwb
    have k0 : ∀ W, WS w1 w0b W → W.cell? ⟨w0b, 0, none⟩ = some (.int .i64 x.c.op) := fun W h => (h.box bx1).c0
    have k1 : ∀ W, WS w1 w0b W → W.cell? ⟨w0b, 1, none⟩ = some (.string ⟨x.c.key.toArray⟩) := fun W h => (h.box bx1).c1
    have k2 : ∀ W, WS w1 w0b W → W.cell? ⟨w0b, 2, none⟩ = some (.slice x.KA x.c.keys.length x.kc) := fun W h => (h.box bx1).c2
    have k3 : ∀ W, WS w1 w0b W → W.cell? ⟨w0b, 3, none⟩ = some (.slice x.VA x.c.value.length x.vc) := fun W h => (h.box bx1).c3
    have k4 : ∀ W, WS w1 w0b W → W.cell? ⟨w0b, 4, none⟩ = some (.slice x.TA x.c.tags.length x.tc) := fun W h => (h.box bx1).c4
    have k5 : ∀ W, WS w1 w0b W → W.cell? ⟨w0b, 5, none⟩ = some (.int .u64 (x.c.life : Int)) := fun W h => (h.box bx1).c5
    have k6 : ∀ W, WS w1 w0b W → W.cell? ⟨w0b, 6, none⟩ = some (.int .u64 (x.c.version : Int)) := fun W h => (h.box bx1).c6
    have k7 : ∀ W, WS w1 w0b W → W.cell? ⟨w0b, 7, none⟩ = some (.string ⟨x.c.tag.toArray⟩) := fun W h => (h.box bx1).c7
    have k8 : ∀ W, WS w1 w0b W → W.cell? ⟨w0b, 8, none⟩ = some (.string ⟨x.c.pre.toArray⟩) := fun W h => (h.box bx1).c8
    have k9 : ∀ W, WS w1 w0b W → W.cell? ⟨w0b, 9, none⟩ = some (.string ⟨x.c.child.toArray⟩) := fun W h => (h.box bx1).c9
    clear bx1
    refine wp_region_noPanic ?_
    refine wp_region_held_drew (S := WS w1 w0b) (by kernel_rfl) (⟨Only.drew (Only.refl _ _), _, _, CE1.out.drew⟩) (fun hHeld => ?_)
    refine wpAnyH_take (i := 0) (oi := ⟨some 8, _, _, _, _, _⟩) (v := ?_) rfl (by kernel_rfl) (by kernel_rfl) (by kernel_rfl) (fun _ _ _ h => h) (Or.inl ⟨by rfl, ?_⟩) (by assumption) ?_
    rotate_left
    · intro w hSw; go_simp; first | done | with_reducible rfl
    try simp only [Act.put, List.setIfInBounds_toArray, List.set_cons_zero, List.set_cons_succ]
    refine wpAnyH_take (i := 1) (oi := ⟨some 9, _, _, _, _, _⟩) (v := ?_) rfl (by kernel_rfl) (by kernel_rfl) (by kernel_rfl) (fun _ _ _ h => h) (Or.inl ⟨by rfl, ?_⟩) (by assumption) ?_
    rotate_left
    · intro w hSw; go_simp; first | done | with_reducible rfl
    try simp only [Act.put, List.setIfInBounds_toArray, List.set_cons_zero, List.set_cons_succ]
    refine wpAnyH_take (i := 2) (oi := ⟨some 10, _, _, _, _, _⟩) (v := ?_) rfl (by kernel_rfl) (by kernel_rfl) (by kernel_rfl) (fun _ _ _ h => h) (Or.inl ⟨by rfl, ?_⟩) (by assumption) ?_
    rotate_left
    · intro w hSw; go_simp; first | done | with_reducible rfl
    try simp only [Act.put, List.setIfInBounds_toArray, List.set_cons_zero, List.set_cons_succ]
    refine wpAnyH_take (i := 3) (oi := ⟨some 11, _, _, _, _, _⟩) (v := ?_) rfl (by kernel_rfl) (by kernel_rfl) (by kernel_rfl) (fun _ _ _ h => h) (Or.inl ⟨by rfl, ?_⟩) (by assumption) ?_
    rotate_left
    · intro w hSw; go_simp; first | done | with_reducible rfl
    try simp only [Act.put, List.setIfInBounds_toArray, List.set_cons_zero, List.set_cons_succ]
    refine wpAnyH_ready (rs := [4]) (by kernel_rfl) (by simp) ?_
    refine AllReadyH.cons (o := ⟨some 12, _, _, _, _, _⟩) rfl (fun K hK => ?_) AllReadyH.nil
    go_simp
    with_reducible refine (HP.out _ (FB.out _ hHeld)).mono ?_
    rintro e w2 ⟨v2, rfl, h2, b2⟩
    obtain ⟨X, d, sh⟩ := own_shape h2
    obtain rfl := sh.val
    have SX := Lib.hid sh
    have HS2 := Lib.hid (hHeld.below b2)
    have HBx := Lib.hid ((FB.out _ hHeld).trans (b2.mono (FB.out _ hHeld).size))
    have HZx := Lib.hid ((FB.out _ hHeld).size)
    obtain ⟨p, q, x0, x1, f0, f1⟩ := HS2.out.2
    clear h2 sh b2
    go_simp
    refine hK.out _ _ (HS2.out) (fun hHeld => ?_)
    clear hK K
    try simp only [Act.put, List.setIfInBounds_toArray, List.set_cons_zero, List.set_cons_succ]
    refine wpAnyH_take (i := 5) (oi := ⟨some 13, _, _, _, _, _⟩) (v := ?_) rfl (by kernel_rfl) (by kernel_rfl) (by kernel_rfl) (fun _ _ _ h => h) (Or.inl ⟨by rfl, ?_⟩) (by assumption) ?_
    rotate_left
    · intro w hSw; go_simp; first | done | with_reducible rfl
    try simp only [Act.put, List.setIfInBounds_toArray, List.set_cons_zero, List.set_cons_succ]
    refine wpAnyH_ready (rs := [6]) (by kernel_rfl) (by simp) ?_
    refine AllReadyH.cons (o := ⟨none, _, _, _, _, _⟩) rfl (fun K hK => ?_) AllReadyH.nil
    go_simp
    refine hK.out _ _ (hHeld.set _ _) (fun hHeld => ?_)
    clear hK K
    try simp only [Act.put, List.setIfInBounds_toArray, List.set_cons_zero, List.set_cons_succ]
    refine wpAnyH_take (i := 7) (oi := ⟨some 3, _, _, _, _, _⟩) (v := ?_) rfl (by kernel_rfl) (by kernel_rfl) (by kernel_rfl) (fun _ _ _ h => h) (Or.inl ⟨by rfl, ?_⟩) (by assumption) ?_
    rotate_left
    · intro w hSw; go_simp; first | done | with_reducible rfl
    try simp only [Act.put, List.setIfInBounds_toArray, List.set_cons_zero, List.set_cons_succ]
    refine wpAnyH_done (by kernel_rfl) ?_ _
    refine NoPanic.normal ?_
    go_wp2_with fail
    have hw : IntKind.u8.wrap x.c.op = x.c.op := by rw [IntKind.wrap_u8']; omega
    have hl1 : w0b + 1 < w1.heap.size := CE1.out.lt
    have hX : ∀ a, X = some a → w1.heap.size ≤ a.block ∧ a.block < w2.heap.size := SX.out.base
    have hz : w.heap.size ≤ w1.heap.size := HZx.out
    refine bodyPost_ret (v := .tuple #[.agg #[.int .u8 (IntKind.u8.wrap x.c.op), .slice X l.length d], .int .i64 0]) (by simp [results, Tryd.results20, go_sem, x0, x1]) rfl ⟨X, d, by rw [hw], ⟨?_, SX.out.non, fun a ha => ?_⟩, FB.out _ hHeld⟩
    · exact rb_only SX.out.rd (((Only.refl (fun j => j = w0b + 1) w2).put rfl _).put rfl _) (fun a ha e => by have := (hX a ha).1; omega)
    · have := hX a ha
      exact ⟨by omega, by simp; omega⟩
  · have h' : validG x.c = false := by simpa using h
    have HH := Lib.hid h'
    have H1 : Hid (wrC x.c = 0 ∧ wrP x.c = [] ∧ wrE x.c = 2) := by show _ ∧ _; unfold wrC wrP wrE; simp [h]
    rw [H1.out.1, H1.out.2.1, H1.out.2.2]
    clear h h' H1
    go_enter Tryd.func20, Tryd.ntmps20
    go_wp2_with fail
    rw [← hw0]
    clear hw0
    refine HV.out.mono ?_
    rintro e w1 ⟨rfl, b1⟩
    obtain ⟨x0, x1, f0, f1⟩ := CE.out.below b1 (Nat.le_refl _)
    have B1 := Lib.hid b1
    rw [HH.out]
    clear b1
    go_wp2_with fail
    exact bodyPost_ret (v := .tuple #[.agg #[.int .u8 0, .slice none 0 0], .int .i64 2]) (by simp [results, Tryd.results20, go_sem, x0, x1]) rfl ⟨none, 0, rfl, Fre.nil _ _, ((HB0.out.trans (B1.out.mono HB0.out.size)).setCell (by simp) _).setCell (by simp) _⟩
end Go.Proofs.YtefadkdngcbpiaaDoor.Qf
