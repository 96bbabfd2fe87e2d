/- Proves what the law's small checks return at given answers: true. Conditions: few bytes. -/
import Derived.Test.YtngeocacbegjkaaVs
import Derived.Deep.RegionWith
import Derived.RegionTactic
namespace Go.Proofs.Ytngeocacbegjkaa.Vh
open Go.RowKit Vm Ap Vw Va Vab Vr Vrb Vg Vgr Vc Vp Vpr Vn Vs

def strOf (l : Bs) : Value := .string ⟨l.toArray⟩
set_option maxRecDepth 100000 in
set_option maxHeartbeats 400000 in
theorem get_true (A : Option Addr) (l : Bs) (k c : Nat) (n s e : Int) (w : World) (hk : l.length = k) (hA : Rb w A l) (hl : l.length ≤ 1000000000) (hn : (getN l : Int) = n) (hs : (getS l : Int) = s) (he : (getE l : Int) = e) :
    Calls Try.prog 16 #[.slice A k c, .int .u64 n, .int .i64 s, .int .i64 e] w fun r w' => r = .returned (.bool true) ∧ w = w' := by
  subst hk
  have HG : Hid (Calls Try.prog 25 #[.slice A l.length c] w fun r w' => r = .returned (.tuple #[.int .u64 n, .int .i64 s, .int .i64 e]) ∧ w = w') := by
    refine (get_any A l c w hA hl).mono ?_
    rintro r w' ⟨rfl, rfl⟩
    exact ⟨by unfold getR; rw [hn, hs, he], rfl⟩
  clear hn hs he hA
  go_enter Try.func16, Try.ntmps16
  go_wp2_with fail
  refine HG.out.mono ?_
  rintro r w' ⟨rfl, rfl⟩
  go_wp2_with fail
  go_ret
  exact ⟨ret_b (by simp), rfl⟩

def boolBelow (w : World) : Ending → World → Prop := fun r w' => r = .returned (.bool true) ∧ Below w.heap.size w w'
set_option maxRecDepth 100000 in
set_option maxHeartbeats 400000 in
theorem part_true (A : Option Addr) (l p : Bs) (k c : Nat) (most s e : Int) (w : World) (hk : l.length = k) (hA : Rb w A l) (hl : l.length ≤ 1000000000) (hlc : k ≤ c) (hm1 : -9223372036854775808 ≤ most) (hm2 : most ≤ 9223372036854775807)
    (hp : (partV l most).1 = p) (hs : ((partV l most).2.1 : Int) = s) (he : ((partV l most).2.2 : Int) = e) :
    Calls Try.prog 18 #[.slice A k c, .int .i64 most, .string ⟨p.toArray⟩, .int .i64 s, .int .i64 e] w (boolBelow w) := by
  subst hk
  have HG : Hid (Calls Try.prog 19 #[.slice A l.length c, .int .i64 most] w fun r w' => ∃ C d, r = .returned (.tuple #[.slice C p.length d, .int .i64 s, .int .i64 e]) ∧ Rb w' C p ∧ Below w.heap.size w w') := by
    refine (getB_any A l c most w hA hl hlc hm1 hm2).mono ?_
    rintro r w' ⟨v, rfl, h1, h2⟩
    rw [hp] at h1
    obtain ⟨C, d, sh⟩ := own_shape h1
    exact ⟨C, d, by rw [sh.val, hs, he], sh.rd, h2⟩
  clear hp hs he hA
  go_enter Try.func18, Try.ntmps18
  go_wp2_with fail
  refine HG.out.mono ?_
  rintro r w1 ⟨C, d, rfl, h1, h2⟩
  have hcv := conv_str d h1
  have H2 := Lib.hid h2
  clear h1 h2
  go_wp2_with fail
  go_ret
  exact ⟨ret_b (by simp), H2.out⟩

set_option maxRecDepth 100000 in
set_option maxHeartbeats 400000 in
theorem put_true (A C : Option Addr) (l m : Bs) (k j c d n : Nat) (x : Int) (w : World) (hk : l.length = k) (hj : m.length = j) (hx : (n : Int) = x) (hA : Rb w A l) (hc : A = none → c = 0) (hl : l.length ≤ 100000000) (hn : n < big) (hC : Rb w C m) (h : l ++ encN n = m) :
    Calls Try.prog 26 #[.slice A k c, .int .u64 x, .slice C j d] w (boolBelow w) := by
  subst hk; subst hj; subst hx
  have HG : Hid (∀ W, Rb W A l → Calls Try.prog 10 #[.slice A l.length c, .int .u64 (n : Int)] W fun r w' => ∃ D f, r = .returned (.slice D m.length f) ∧ Rb w' D m ∧ Below W.heap.size W w') := by
    intro W hA'
    refine (put_any A l c n W hA' hc hl hn).mono ?_
    rintro r w' ⟨v, rfl, h1, h2⟩
    rw [h] at h1
    obtain ⟨C, d, sh⟩ := own_shape h1
    exact ⟨C, d, by rw [sh.val], sh.rd, h2⟩
  have HC : Hid (Rb w.drew C m) := hC
  have HA : Hid (Rb w.drew A l) := hA
  have hcv := conv_str d HC.out
  have HB : Hid (Below w.heap.size w w.drew) := (Below.refl _ _).drew
  have hz : w.heap.size = w.drew.heap.size := rfl
  have HZ := Lib.hid hz
  clear hA hc h hC hz
  go_enter Try.func26, Try.ntmps26
  go_wp2_with fail
  go_region_with (go_at_call 10; refine (HG.out _ HA.out).mono ?_; rintro r w1 ⟨D, f, rfl, h1, h2⟩; have hc1 := conv_str f h1; have hc2 := conv_str d (HC.out.below h2 (Nat.le_refl _)); have HW := Lib.hid (Below.trans HB.out (h2.mono (by rw [HZ.out]; exact Nat.le_refl _))); clear h1 h2)
  all_goals
    go_wp2_with fail
    go_ret
    exact ⟨ret_b (by simp), HW.out⟩

def boolTook (B : Nat) (w : World) (g : Nat) (l : Bs) : Ending → World → Prop := fun r w' => r = .returned (.bool true) ∧ Rdr B w' g l ∧ w.grownBy w' (some g)
set_option maxRecDepth 100000 in
set_option maxHeartbeats 400000 in
theorem number_true (B : Nat) (w : World) (g : Nat) (l m : Bs) (n e : Int) (hr : Rdr B w g l) (hl : l.length ≤ 1000000000) (hn : (getN l : Int) = n) (he : (getE l : Int) = e) (hm : l.drop (getS l) = m) :
    Calls Try.prog 21 #[.pointer (some ⟨g, 0, none⟩), .int .u64 n, .int .i64 e] w (boolTook B w g m) := by
  have HG := Lib.hid (number_any B w g l hr hl)
  have HR : Hid (numR l = .tuple #[.int .u64 n, .int .i64 e]) := by show _ = _; unfold numR; rw [hn, he]
  subst hm
  clear hn he hr
  go_enter Try.func21, Try.ntmps21
  go_wp2_with fail
  refine HG.out.mono ?_
  rintro r w' ⟨rfl, h1, h2⟩
  have H1 := Lib.hid h1; have H2 := Lib.hid h2; clear h1 h2
  rw [HR.out]
  go_wp2_with fail
  go_ret
  exact ⟨ret_b (by simp), H1.out, H2.out⟩
set_option maxRecDepth 100000 in
set_option maxHeartbeats 400000 in
theorem one_true (B : Nat) (w : World) (g : Nat) (l m : Bs) (n e : Int) (hr : Rdr B w g l) (hl : l.length ≤ 1000000000) (hn : ((oneV l).1 : Int) = n) (he : ((oneV l).2.2 : Int) = e) (hm : l.drop (oneV l).2.1 = m) :
    Calls Try.prog 22 #[.pointer (some ⟨g, 0, none⟩), .int .u8 n, .int .i64 e] w (boolTook B w g m) := by
  have HG := Lib.hid (byte_any B w g l hr hl)
  have HR : Hid (oneR l = .tuple #[.int .u8 n, .int .i64 e]) := by show _ = _; unfold oneR; rw [hn, he]
  subst hm
  clear hn he hr
  go_enter Try.func22, Try.ntmps22
  go_wp2_with fail
  refine HG.out.mono ?_
  rintro r w' ⟨rfl, h1, h2⟩
  have H1 := Lib.hid h1; have H2 := Lib.hid h2; clear h1 h2
  rw [HR.out]
  go_wp2_with fail
  go_ret
  exact ⟨ret_b (by simp), H1.out, H2.out⟩
set_option maxRecDepth 100000 in
set_option maxHeartbeats 400000 in
theorem bytes_true (B : Nat) (w : World) (g : Nat) (l p m : Bs) (most e : Int) (hr : Rdr B w g l) (hl : l.length ≤ 1000000000) (hm1 : -9223372036854775808 ≤ most) (hm2 : most ≤ 9223372036854775807)
    (hp : (partV l most).1 = p) (he : ((partV l most).2.2 : Int) = e) (hm : l.drop (partV l most).2.1 = m) :
    Calls Try.prog 23 #[.pointer (some ⟨g, 0, none⟩), .int .i64 most, .string ⟨p.toArray⟩, .int .i64 e] w (boolTook B w g m) := by
  have HG : Hid (Calls Try.prog 33 #[.pointer (some ⟨g, 0, none⟩), .int .i64 most] w fun r w' => ∃ C d, r = .returned (.tuple #[.slice C p.length d, .int .i64 e]) ∧ Rb w' C p ∧ Rdr B w' g m ∧ w.grownBy w' (some g)) := by
    refine (bytes_any B w g l most hr hl hm1 hm2).mono ?_
    rintro r w' ⟨v, rfl, h1, h2, h3⟩
    rw [hp] at h1
    rw [hm] at h2
    obtain ⟨C, d, sh⟩ := own_shape h1
    exact ⟨C, d, by rw [sh.val, he], sh.rd, h2, h3⟩
  clear hp he hm hr
  go_enter Try.func23, Try.ntmps23
  go_wp2_with fail
  refine HG.out.mono ?_
  rintro r w1 ⟨C, d, rfl, h1, h2, h3⟩
  have hcv := conv_str d h1
  have H2 := Lib.hid h2; have H3 := Lib.hid h3
  clear h1 h2 h3
  go_wp2_with fail
  go_ret
  exact ⟨ret_b (by simp), H2.out, H3.out⟩

/-- A nil reader, or a zero one in block g. -/
def Idle (w : World) (p : Option Addr) : Prop := p = none ∨ ∃ g, p = some ⟨g, 0, none⟩ ∧ w.cell? ⟨g, 0, none⟩ = some (.slice none 0 0) ∧ w.cell? ⟨g, 1, none⟩ = some (.bool false)
theorem Idle.below {w w' : World} {p : Option Addr} (h : Idle w p) (hb : Below w.heap.size w w') : Idle w' p := by
  rcases h with h | ⟨g, rfl, h1, h2⟩
  · exact Or.inl h
  · have hg : g < w.heap.size := World.block_lt_of_cell? w _ h1
    exact Or.inr ⟨g, rfl, by rw [hb.cell (p := ⟨g, 0, none⟩) hg]; exact h1, by rw [hb.cell (p := ⟨g, 1, none⟩) hg]; exact h2⟩

set_option maxRecDepth 100000 in
set_option maxHeartbeats 400000 in
theorem takeN_idle (w : World) (p : Option Addr) (f : Value) (h : Idle w p) :
    Calls Try.prog 34 #[.pointer p, f] w fun e w' => e = .returned (.tuple #[.int .u64 0, .int .i64 1]) ∧ w = w' := by
  rcases h with rfl | ⟨g, rfl, h1, h2⟩
  all_goals
    go_enter Try.func34, Try.ntmps34
    go_wp2_with fail
    go_ret2
    exact ⟨rfl, rfl⟩

set_option maxRecDepth 100000 in
set_option maxHeartbeats 400000 in
theorem takeB_idle (w : World) (p : Option Addr) (f : Value) (h : Idle w p) :
    Calls Try.prog 35 #[.pointer p, f] w fun e w' => e = .returned (.tuple #[.int .u8 0, .int .i64 1]) ∧ w = w' := by
  rcases h with rfl | ⟨g, rfl, h1, h2⟩
  all_goals
    go_enter Try.func35, Try.ntmps35
    go_wp2_with fail
    go_ret2
    exact ⟨rfl, rfl⟩

set_option maxRecDepth 100000 in
set_option maxHeartbeats 400000 in
theorem takeS_idle (w : World) (p : Option Addr) (f : Value) (h : Idle w p) :
    Calls Try.prog 37 #[.pointer p, f] w fun e w' => e = .returned (.tuple #[.slice none 0 0, .int .i64 1]) ∧ w = w' := by
  rcases h with rfl | ⟨g, rfl, h1, h2⟩
  all_goals
    go_enter Try.func37, Try.ntmps37
    go_wp2_with fail
    go_ret2
    exact ⟨rfl, rfl⟩

set_option maxRecDepth 100000 in
set_option maxHeartbeats 400000 in
theorem number_idle (w : World) (p : Option Addr) (h : Idle w p) :
    Calls Try.prog 21 #[.pointer p, .int .u64 0, .int .i64 1] w (boolBelow w) := by
  have HM : Hid (Calls Try.prog 31 #[.pointer p] w fun e w' => e = .returned (.tuple #[.int .u64 0, .int .i64 1]) ∧ w = w') := by
    have HT := Lib.hid (fun f => takeN_idle w p f h)
    clear h
    show Calls _ _ _ _ _
    go_enter Try.func31, Try.ntmps31
    go_wp2_with fail
    refine (HT.out _).mono ?_
    rintro e w' ⟨rfl, rfl⟩
    go_wp2_with fail
    go_ret2
    exact ⟨rfl, rfl⟩
  clear h
  go_enter Try.func21, Try.ntmps21
  go_wp2_with fail
  refine HM.out.mono ?_
  rintro e w' ⟨rfl, rfl⟩
  go_wp2_with fail
  go_ret
  exact ⟨rfl, Below.refl _ _⟩

set_option maxRecDepth 100000 in
set_option maxHeartbeats 400000 in
theorem one_idle (w : World) (p : Option Addr) (h : Idle w p) :
    Calls Try.prog 22 #[.pointer p, .int .u8 0, .int .i64 1] w (boolBelow w) := by
  have HM : Hid (Calls Try.prog 32 #[.pointer p] w fun e w' => e = .returned (.tuple #[.int .u8 0, .int .i64 1]) ∧ w = w') := by
    have HT := Lib.hid (fun f => takeB_idle w p f h)
    clear h
    show Calls _ _ _ _ _
    go_enter Try.func32, Try.ntmps32
    go_wp2_with fail
    refine (HT.out _).mono ?_
    rintro e w' ⟨rfl, rfl⟩
    go_wp2_with fail
    go_ret2
    exact ⟨rfl, rfl⟩
  clear h
  go_enter Try.func22, Try.ntmps22
  go_wp2_with fail
  refine HM.out.mono ?_
  rintro e w' ⟨rfl, rfl⟩
  go_wp2_with fail
  go_ret
  exact ⟨rfl, Below.refl _ _⟩

set_option maxRecDepth 100000 in
set_option maxHeartbeats 400000 in
theorem bytes_idle (w : World) (p : Option Addr) (most : Int) (h : Idle w p) :
    Calls Try.prog 23 #[.pointer p, .int .i64 most, .string ⟨#[]⟩, .int .i64 1] w (boolBelow w) := by
  have hb := (Below.refl w.heap.size w).alloc (Nat.le_refl _) (.cells #[.int .i64 most] 3)
  have HB := Lib.hid hb
  have HM : Hid (Calls Try.prog 33 #[.pointer p, .int .i64 most] w fun e w' => e = .returned (.tuple #[.slice none 0 0, .int .i64 1]) ∧ Below w.heap.size w w') := by
    have HT := Lib.hid (fun f => takeS_idle _ p f (h.below hb))
    clear h hb
    show Calls _ _ _ _ _
    go_enter Try.func33, Try.ntmps33
    go_wp2_with fail
    refine (HT.out _).mono ?_
    rintro e w' ⟨rfl, rfl⟩
    go_wp2_with fail
    go_ret2
    exact ⟨rfl, HB.out⟩
  clear h hb HB
  go_enter Try.func23, Try.ntmps23
  go_wp2_with fail
  refine HM.out.mono ?_
  rintro e w1 ⟨rfl, h2⟩
  have hcv : (convert 22 9 (.slice none 0 0)).run Try.prog w1 = .ok (.string ⟨#[]⟩) w1 := conv_str (w := w1) 0 (Rb.nil w1 none)
  have H2 := Lib.hid h2
  clear h2
  go_wp2_with fail
  go_ret
  exact ⟨rfl, H2.out⟩
set_option maxRecDepth 100000 in
set_option maxHeartbeats 400000 in
theorem left_idle (w : World) (p : Option Addr) (h : Idle w p) :
    Calls Try.prog 24 #[.pointer p] w fun e w' => e = .returned (.int .i64 0) ∧ w = w' := by
  rcases h with rfl | ⟨g, rfl, h1, h2⟩
  all_goals
    go_enter Try.func24, Try.ntmps24
    go_wp2_with fail
    go_ret
    exact ⟨rfl, rfl⟩
end Go.Proofs.Ytngeocacbegjkaa.Vh
