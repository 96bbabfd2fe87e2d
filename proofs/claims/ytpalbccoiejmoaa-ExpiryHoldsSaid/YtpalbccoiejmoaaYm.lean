/- Proves that ExpirySorts returns true at every argument. Conditions: as the row gives them. -/
import Derived.Test.YtpalbccoiejmoaaYi
import Derived.Test.YtpalbccoiejmoaaYk
import Derived.Deep.CutBlock
namespace Go.Proofs.Ytpalbccoiejmoaa.Ym
open Go.RowKit Ap Mi Nw Ya Yb Yc Yd Ye Yf Yg Yh Yi
open Yk (tmL tmL_get tmL_len)

/-- A list that lies outside of two heaps. -/
def Ot (F1 F2 : Nat → Prop) (w : World) (A : Option Addr) (L : List Td) (c : Nat) : Prop := Lt w A L c ∧ ∀ a, A = some a → a.block < w.heap.size ∧ ¬ F1 a.block ∧ ¬ F2 a.block
/-- Two heaps of the call's own, and two lists outside of them. -/
def B2 (N : Nat) (w : World) (g1 g2 : Nat) (L1 L2 : List Td) (A : Option Addr) (L : List Td) (c : Nat) (E : Option Addr) (M : List Td) (d : Nat) : Prop :=
  ∃ F1 F2, Hp F1 w g1 L1 ∧ Hp F2 w g2 L2 ∧ (∀ j, F1 j → N ≤ j ∧ j < w.heap.size ∧ ¬ F2 j) ∧ (∀ j, F2 j → N ≤ j ∧ j < w.heap.size) ∧ Ot F1 F2 w A L c ∧ Ot F1 F2 w E M d ∧ N ≤ w.heap.size
section
variable {N : Nat} {w w' : World} {g1 g2 : Nat} {L1 L2 L M : List Td} {A E : Option Addr} {c d : Nat}
theorem Ot.nil (F1 F2 : Nat → Prop) (w : World) : Ot F1 F2 w none [] 0 := ⟨Lt.nil w, fun a e => by cases e⟩
theorem Ot.below {F1 F2 : Nat → Prop} (h : Ot F1 F2 w A L c) (hb : Below w.heap.size w w') : Ot F1 F2 w' A L c :=
  ⟨h.1.below hb (Nat.le_refl _), fun a ha => ⟨Nat.lt_of_lt_of_le (h.2 a ha).1 hb.size, (h.2 a ha).2⟩⟩
theorem B2.sz (h : B2 N w g1 g2 L1 L2 A L c E M d) : N ≤ w.heap.size := by obtain ⟨_, _, _, _, _, _, _, _, h⟩ := h; exact h
theorem B2.srt1 (h : B2 N w g1 g2 L1 L2 A L c E M d) : Srt L1 := by obtain ⟨_, _, h, _⟩ := h; exact h.srt
theorem B2.srt2 (h : B2 N w g1 g2 L1 L2 A L c E M d) : Srt L2 := by obtain ⟨_, _, _, h, _⟩ := h; exact h.srt
theorem B2.li (h : B2 N w g1 g2 L1 L2 A L c E M d) : Lt w A L c := by obtain ⟨_, _, _, _, _, _, h, _⟩ := h; exact h.1
theorem B2.below (h : B2 N w g1 g2 L1 L2 A L c E M d) (hb : Below w.heap.size w w') : B2 N w' g1 g2 L1 L2 A L c E M d := by
  obtain ⟨F1, F2, h1, h2, h3, h4, h5, h6, h7⟩ := h
  have hz := hb.size
  exact ⟨F1, F2, h1.below hb (Nat.le_refl _), h2.below hb (Nat.le_refl _), fun j hj => ⟨(h3 j hj).1, by have := (h3 j hj).2.1; omega, (h3 j hj).2.2⟩, fun j hj => ⟨(h4 j hj).1, by have := (h4 j hj).2; omega⟩, h5.below hb, h6.below hb, by omega⟩
/-- Two new lists. -/
theorem B2.lists (h : B2 N w g1 g2 L1 L2 A L c E M d) (hb : Below w.heap.size w w') {A' E' : Option Addr} {L' M' : List Td} {c' d' : Nat} (ha : Lt w' A' L' c') (he : Lt w' E' M' d')
    (hA : ∀ a, A' = some a → A = some a ∨ (w.heap.size ≤ a.block ∧ a.block < w'.heap.size)) (hE : ∀ a, E' = some a → E = some a ∨ (w.heap.size ≤ a.block ∧ a.block < w'.heap.size)) : B2 N w' g1 g2 L1 L2 A' L' c' E' M' d' := by
  obtain ⟨F1, F2, h1, h2, h3, h4, h5, h6, h7⟩ := h
  have hz := hb.size
  refine ⟨F1, F2, h1.below hb (Nat.le_refl _), h2.below hb (Nat.le_refl _), fun j hj => ⟨(h3 j hj).1, by have := (h3 j hj).2.1; omega, (h3 j hj).2.2⟩, fun j hj => ⟨(h4 j hj).1, by have := (h4 j hj).2; omega⟩, ⟨ha, fun a e => ?_⟩, ⟨he, fun a e => ?_⟩, by omega⟩
  · rcases hA a e with h | h
    · exact ⟨by have := (h5.2 a h).1; omega, (h5.2 a h).2⟩
    · exact ⟨h.2, fun hf => by have := (h3 _ hf).2.1; omega, fun hf => by have := (h4 _ hf).2; omega⟩
  · rcases hE a e with h | h
    · exact ⟨by have := (h6.2 a h).1; omega, (h6.2 a h).2⟩
    · exact ⟨h.2, fun hf => by have := (h3 _ hf).2.1; omega, fun hf => by have := (h4 _ hf).2; omega⟩
theorem wr1 {F1 F2 G : Nat → Prop} {T : List Td} (h1 : Hp G w' g1 T) (hG : ∀ j, G j → F1 j ∨ w.heap.size ≤ j) (ho : Only F1 w w') (h2 : Hp F2 w g2 L2) (h3 : ∀ j, F1 j → N ≤ j ∧ j < w.heap.size ∧ ¬ F2 j) (h4 : ∀ j, F2 j → N ≤ j ∧ j < w.heap.size) (h5 : Ot F1 F2 w A L c) (h6 : Ot F1 F2 w E M d) (h7 : N ≤ w.heap.size) : B2 N w' g1 g2 T L2 A L c E M d ∧ Below N w w' := by
  have hz := ho.size
  refine ⟨⟨fun j => G j ∧ j < w'.heap.size, F2, h1.tight, h2.only ho (fun j hj hf => (h3 j hf).2.2 hj), fun j hj => ?_, fun j hj => ⟨(h4 j hj).1, by have := (h4 j hj).2; omega⟩, ⟨h5.1.only ho (fun a ha => (h5.2 a ha).2.1), fun a ha => ?_⟩, ⟨h6.1.only ho (fun a ha => (h6.2 a ha).2.1), fun a ha => ?_⟩, by omega⟩, ho.below (fun j hj => (h3 j hj).1) h7⟩
  · rcases hG j hj.1 with h | h
    · exact ⟨(h3 j h).1, hj.2, (h3 j h).2.2⟩
    · exact ⟨by omega, hj.2, fun hf => by have := (h4 j hf).2; omega⟩
  · have hl := (h5.2 a ha).1
    exact ⟨by omega, fun hf => (hG _ hf.1).elim (h5.2 a ha).2.1 (fun h => by omega), (h5.2 a ha).2.2⟩
  · have hl := (h6.2 a ha).1
    exact ⟨by omega, fun hf => (hG _ hf.1).elim (h6.2 a ha).2.1 (fun h => by omega), (h6.2 a ha).2.2⟩
theorem wr2 {F1 F2 G : Nat → Prop} {T : List Td} (h2 : Hp G w' g2 T) (hG : ∀ j, G j → F2 j ∨ w.heap.size ≤ j) (ho : Only F2 w w') (h1 : Hp F1 w g1 L1) (h3 : ∀ j, F1 j → N ≤ j ∧ j < w.heap.size ∧ ¬ F2 j) (h4 : ∀ j, F2 j → N ≤ j ∧ j < w.heap.size) (h5 : Ot F1 F2 w A L c) (h6 : Ot F1 F2 w E M d) (h7 : N ≤ w.heap.size) : B2 N w' g1 g2 L1 T A L c E M d ∧ Below N w w' := by
  have hz := ho.size
  refine ⟨⟨F1, fun j => G j ∧ j < w'.heap.size, h1.only ho (fun j hj => (h3 j hj).2.2), h2.tight, fun j hj => ?_, fun j hj => ?_, ⟨h5.1.only ho (fun a ha => (h5.2 a ha).2.2), fun a ha => ?_⟩, ⟨h6.1.only ho (fun a ha => (h6.2 a ha).2.2), fun a ha => ?_⟩, by omega⟩, ho.below (fun j hj => (h4 j hj).1) h7⟩
  · have hl := (h3 j hj).2.1
    exact ⟨(h3 j hj).1, by omega, fun hf => (hG _ hf.1).elim (h3 j hj).2.2 (fun h => by omega)⟩
  · rcases hG j hj.1 with h | h
    · exact ⟨(h4 j h).1, hj.2⟩
    · exact ⟨by omega, hj.2⟩
  · have hl := (h5.2 a ha).1
    exact ⟨by omega, (h5.2 a ha).2.1, fun hf => (hG _ hf.1).elim (h5.2 a ha).2.2 (fun h => by omega)⟩
  · have hl := (h6.2 a ha).1
    exact ⟨by omega, (h6.2 a ha).2.1, fun hf => (hG _ hf.1).elim (h6.2 a ha).2.2 (fun h => by omega)⟩
theorem B2.put1 (h : B2 N w g1 g2 L1 L2 A L c E M d) (n a : Int) (ha : Tm a) {e : Int} {T : List Td} (he : putN L1 n = e) (hT : putT L1 n a = T) :
    Calls Try.prog 13 #[.pointer (some ⟨g1, 0, none⟩), .int .i64 n, .int .u64 a] w fun q w' => q = .returned (.int .i64 e) ∧ B2 N w' g1 g2 T L2 A L c E M d ∧ Below N w w' := by
  subst he; subst hT
  obtain ⟨F1, F2, h1, h2, h3, h4, h5, h6, h7⟩ := h
  exact (Ye.put_any h1 n a ha).mono fun _ _ hp => ⟨hp.1, wr1 hp.2.1 (fun _ hj => hj) hp.2.2 h2 h3 h4 h5 h6 h7⟩
theorem B2.put2 (h : B2 N w g1 g2 L1 L2 A L c E M d) (n a : Int) (ha : Tm a) {e : Int} {T : List Td} (he : putN L2 n = e) (hT : putT L2 n a = T) :
    Calls Try.prog 13 #[.pointer (some ⟨g2, 0, none⟩), .int .i64 n, .int .u64 a] w fun q w' => q = .returned (.int .i64 e) ∧ B2 N w' g1 g2 L1 T A L c E M d ∧ Below N w w' := by
  subst he; subst hT
  obtain ⟨F1, F2, h1, h2, h3, h4, h5, h6, h7⟩ := h
  exact (Ye.put_any h2 n a ha).mono fun _ _ hp => ⟨hp.1, wr2 hp.2.1 (fun _ hj => hj) hp.2.2 h1 h3 h4 h5 h6 h7⟩
theorem B2.removes1 (h : B2 N w g1 g2 L1 L2 A L c E M d) (n y : Int) {e : Int} {T : List Td} (hy : remA L1 n = y) (he : remN L1 n = e) (hT : remT L1 n = T) :
    Calls Try.prog 15 #[.pointer (some ⟨g1, 0, none⟩), .int .i64 n, .int .u64 y, .int .i64 e] w fun q w' => q = .returned (.bool true) ∧ B2 N w' g1 g2 T L2 A L c E M d ∧ Below N w w' := by
  subst hT
  obtain ⟨F1, F2, h1, h2, h3, h4, h5, h6, h7⟩ := h
  exact (removes_is h1 n y e hy he).mono fun _ _ hp => ⟨hp.1, wr1 hp.2.1 (fun _ hj => hj) hp.2.2 h2 h3 h4 h5 h6 h7⟩
theorem B2.first1 (h : B2 N w g1 g2 L1 L2 A L c E M d) (x y : Int) {e : Int} (hx : oldV L1 = (x, y)) (he : oldN L1 = e) :
    Calls Try.prog 14 #[.pointer (some ⟨g1, 0, none⟩), .agg #[.int .i64 x, .int .u64 y], .int .i64 e] w fun q w' => q = .returned (.bool true) ∧ B2 N w' g1 g2 L1 L2 A L c E M d ∧ Below w.heap.size w w' := by
  have h0 := h
  obtain ⟨F1, F2, h1, h2, h3, h4, h5, h6, h7⟩ := h
  have := first_is h1
  rw [hx, he] at this
  exact this.mono fun _ _ ⟨e1, e2⟩ => ⟨e1, h0.below e2, e2⟩
theorem B2.dues2 (h : B2 N w g1 g2 L1 L2 A L c E M d) (now : Int) (hM : M = L2.take (dueK L2 now)) {T : List Td} (hT : L2.drop (dueK L2 now) = T) :
    Calls Try.prog 17 #[.pointer (some ⟨g2, 0, none⟩), .int .u64 now, .slice E M.length d, .int .i64 0] w fun q w' => q = .returned (.bool true) ∧ B2 N w' g1 g2 L1 T A L c E M d ∧ Below N w w' := by
  subst hT
  obtain ⟨F1, F2, h1, h2, h3, h4, h5, h6, h7⟩ := h
  refine (dues_is h2 now hM h6.1 (fun b hb => (h6.2 b hb).2.2)).mono ?_
  rintro q w' ⟨F', rfl, hp, hF, ho⟩
  exact ⟨rfl, wr2 hp hF ho h1 h3 h4 h5 h6 h7⟩
theorem B2.list2 (h : B2 N w g1 g2 L1 L2 A L c E M d) :
    Calls Try.prog 19 #[.pointer (some ⟨g2, 0, none⟩)] w fun q w' => ∃ B b, q = .returned (.slice B L2.length b) ∧ Lt w' B L2 b ∧ B2 N w' g1 g2 L1 L2 A L c E M d ∧ Below N w w' := by
  have h0 := h
  obtain ⟨F1, F2, h1, h2, h3, h4, h5, h6, h7⟩ := h
  refine (list_any h2).mono ?_
  rintro q w' ⟨B, b, rfl, hm, hb⟩
  exact ⟨B, b, rfl, Lt.mine hm, h0.below hb, hb.mono h7⟩
end
/-- The number of a slot. -/
def nth (k : Nat) (s : Int) : Int := ((k : Int) * s).tmod 1000 * 300 + k
theorem nth_ok {k : Nat} {s : Int} (hs : 1 ≤ s) (hk : k < 200) : Sl (nth k s) ∧ nth k s % 300 = k ∧ 0 ≤ ((k : Int) * s).tmod 1000 ∧ ((k : Int) * s).tmod 1000 < 1000 := by
  have h0 : 0 ≤ (k : Int) * s := Int.mul_nonneg (by omega) (by omega)
  unfold nth Sl
  rw [Int.tmod_eq_emod_of_nonneg h0]
  omega
theorem put_new {L : List Td} {k : Nat} {n a : Int} (hL : ∀ x ∈ L, x.1 % 300 < k) (hn : n % 300 = k) (hs : Sl n) : putN L n = 0 ∧ putT L n a = ins L (n, a) ∧ ∀ x ∈ ins L (n, a), x.1 % 300 < ((k + 1 : Nat) : Int) := by
  have hm : n ∉ ns L := fun h => by
    obtain ⟨x, hx, e⟩ := mem_ns.1 h
    have := hL x hx
    rw [e] at this; omega
  refine ⟨by unfold putN; rw [if_neg (by simpa using hs), if_neg hm], by unfold putT; rw [if_pos ⟨hs, hm⟩], fun x hx => ?_⟩
  rcases mem_ins.1 hx with e | e
  · rw [e]; show n % 300 < _; omega
  · have := hL x e; omega
theorem rem_first {x : Td} {r : List Td} (h : Srt (x :: r)) : remA (x :: r) x.1 = x.2 ∧ remN (x :: r) x.1 = 0 ∧ remT (x :: r) x.1 = r := by
  have hs := h.sl x (by simp)
  have hm : x.1 ∈ ns (x :: r) := mem_ns.2 ⟨x, by simp, rfl⟩
  obtain ⟨d1, d2⟩ := List.nodup_cons.1 (show (x.1 :: ns r).Nodup from h.nd)
  refine ⟨by unfold remA; rw [if_pos ⟨hs, hm⟩]; simp [tmOf], by unfold remN; rw [if_neg (by simpa using hs), if_pos hm], ?_⟩
  unfold remT
  rw [if_pos ⟨hs, hm⟩]
  have : wo (x :: r) x.1 = wo r x.1 := by unfold wo; simp
  rw [this, wo_none d1]
set_option maxRecDepth 100000 in
set_option maxHeartbeats 8000000 in
theorem sorts_walk (D : Option Addr) (q0 : Nat) (l : List Int) (s now : Int) (W : World) (ha : Rs W 1 D l.length q0 (tmL l)) (hl : ∀ x ∈ l, Tm x) :
    Calls Try.prog 4 #[.slice D l.length q0, .int .i64 s, .int .u64 now] W (boolTo true W) := by
  have HD := Lib.hid ha
  have HL := Lib.hid hl
  have hdl := ha.le
  have hdm := ha.max
  unfold maxLen at hdm
  clear ha hl
  obtain ⟨N, hN⟩ : ∃ N, N = W.heap.size := ⟨_, rfl⟩
  have HN := Lib.hid hN
  unfold boolTo
  rw [← hN]
  clear hN
  by_cases h200 : 200 < l.length
  · have i1 : (200 : Int) < (l.length : Int) := by omega
    go_enter Try.func4, Try.ntmps4
    go_wp2_with fail
    refine (known_any W).mono ?_
    rintro e w1 ⟨rfl, hb⟩
    have HB := Lib.hid hb
    clear hb
    go_wp2_with fail
    go_ret
    exact ⟨rfl, by rw [HN.out]; exact HB.out⟩
  have i1 : (l.length : Int) ≤ 200 := by omega
  have hl200 : l.length ≤ 200 := by omega
  clear h200
  by_cases hs1 : s < 1
  · go_enter Try.func4, Try.ntmps4
    go_wp2_with fail
    refine (known_any W).mono ?_
    rintro e w1 ⟨rfl, hb⟩
    have HB := Lib.hid hb
    clear hb
    go_wp2_with fail
    go_ret
    exact ⟨rfl, by rw [HN.out]; exact HB.out⟩
  have i2 : 1 ≤ s := by omega
  clear hs1
  by_cases hs2 : 1000 < s
  · go_enter Try.func4, Try.ntmps4
    go_wp2_with fail
    refine (known_any W).mono ?_
    rintro e w1 ⟨rfl, hb⟩
    have HB := Lib.hid hb
    clear hb
    go_wp2_with fail
    go_ret
    exact ⟨rfl, by rw [HN.out]; exact HB.out⟩
  have i3 : s ≤ 1000 := by omega
  clear hs2
  have HNW := Lib.hid (new_any W)
  unfold mkPost at HNW
  rw [← HN.out] at HNW
  go_enter Try.func4, Try.ntmps4
  go_wp2_with fail
  refine HNW.out.mono ?_
  rintro e w1 ⟨g1, rfl, ha, hb⟩
  have HA1 := Lib.hid ha
  have HB1 := Lib.hid hb
  have hz1 : N ≤ w1.heap.size := by rw [HN.out]; exact hb.size
  clear ha hb HNW
  go_wp2_with fail
  refine (new_any w1).mono ?_
  rintro e w2 ⟨g2, rfl, ha, hb⟩
  have HBO : Hid (B2 N w2 g1 g2 [] [] none [] 0 none [] 0) := ⟨fun j => N ≤ j ∧ j < w1.heap.size, fun j => w1.heap.size ≤ j ∧ j < w2.heap.size, (HA1.out.tight).below hb (Nat.le_refl _), ha.tight, fun j hj => ⟨hj.1, Nat.lt_of_lt_of_le hj.2 hb.size, fun h => by omega⟩, fun j hj => ⟨by omega, hj.2⟩, Ot.nil _ _ _, Ot.nil _ _ _, Nat.le_trans hz1 hb.size⟩
  have HB2 := Lib.hid (HB1.out.trans (hb.mono hz1))
  clear ha hb HA1 HB1 hz1
  go_wp2_with fail
  go_loopw [9, 39] (fun av i wr => ∃ (k : Nat) (A : Option Addr) (c : Nat) (L : List Td), k ≤ l.length ∧ av = .slice A L.length c ∧ i = .int .i64 (k : Int) ∧ B2 N wr g1 g2 L L A L c none [] 0 ∧ (∀ x ∈ L, x.1 % 300 < (k : Int)) ∧ Below N W wr) (fun _ i _ => l.length - (intOf i).toNat)
  case atStart => exact ⟨0, none, 0, [], Nat.zero_le _, rfl, rfl, HBO.out, by simp, HB2.out⟩
  case round =>
    obtain ⟨k, A, c, L, hk, rfl, rfl, hbo, hlk, hbl⟩ := hrel
    have BO := Lib.hid hbo; have BL := Lib.hid hbl; have LK := Lib.hid hlk
    have hNr := hbo.sz
    clear hbo hbl hlk HBO HB2
    by_cases hlt : k < l.length
    · have j1 : (k : Int) < (l.length : Int) := by omega
      have hk200 : k < 200 := by omega
      obtain ⟨n1, n2, n3, n4⟩ := nth_ok i2 hk200
      have m1 : 0 ≤ (k : Int) * s := Int.mul_nonneg (by omega) (by omega)
      have m2 : (k : Int) * s ≤ 200000 := Int.le_trans (Int.mul_le_mul (show (k : Int) ≤ 200 by omega) i3 (by omega) (by omega)) (by decide)
      have RD := HD.out.rd.below BL.out (by have := HN.out; omega)
      obtain ⟨tb, to_, rfl, ltb, a0⟩ := RD.at_ (tmL_get hlt)
      obtain ⟨y, hy⟩ : ∃ y, y = l[k] := ⟨_, rfl⟩
      have hyt := HL.out l[k] (List.getElem_mem hlt)
      rw [← hy] at a0 hyt
      obtain ⟨z, hz⟩ : ∃ z, z = ((k : Int) * s).tmod 1000 := ⟨_, rfl⟩
      obtain ⟨v, hv⟩ : ∃ v, v = nth k s := ⟨_, rfl⟩
      have hvz : z * 300 + (k : Int) = v := by rw [hv, hz]; rfl
      rw [← hz] at n3 n4
      rw [← hv] at n1 n2
      have m3 : ((k : Int) * s).tmod 1000 = z := hz.symm
      have HYT := Lib.hid hyt
      have n5 := n1.1
      have n6 := n1.2
      have NS := Lib.hid n1
      have PN := Lib.hid (put_new (a := y) LK.out n2 n1)
      have HP := Lib.hid (Yd.put_any BO.out.li v y (Nat.le_trans BO.out.srt1.len (by decide)))
      unfold tabPost at HP
      rw [PN.out.1, PN.out.2.1] at HP
      clear hv hz hy n1 n2 hyt RD
      go_wp2_with fail
      refine HP.out.mono ?_
      rintro r v1 ⟨A', c', rfl, hl, hb, hA⟩
      have hbo := BO.out.lists hb hl (Lt.nil _) hA (fun a e => by cases e)
      have BL1 := Lib.hid (BL.out.trans (hb.mono hNr))
      have hN1 := hbo.sz
      have H1 := Lib.hid (hbo.put1 v y HYT.out PN.out.1 PN.out.2.1)
      obtain ⟨L', hL'⟩ : ∃ L', L' = ins L (v, y) := ⟨_, rfl⟩
      have PN2 : Hid (putT L v y = L' ∧ ∀ x ∈ L', x.1 % 300 < ((k + 1 : Nat) : Int)) := by show _ ∧ _; rw [hL']; exact ⟨PN.out.2.1, PN.out.2.2⟩
      rw [← hL'] at H1 ⊢
      clear hl hb hA hbo HP a0
      go_wp2_with fail
      refine H1.out.mono ?_
      rintro r v2 ⟨rfl, hbo, hb⟩
      have BL2 := Lib.hid (BL1.out.trans hb)
      have H2 := Lib.hid (hbo.put2 v y HYT.out PN.out.1 PN2.out.1)
      have HLq := Lib.hid hL'
      clear hbo hb H1 hL'
      go_wp2_with fail
      refine H2.out.mono ?_
      rintro r v3 ⟨rfl, hbo, hb⟩
      have BL3 := Lib.hid (BL2.out.trans hb)
      have BO3 := Lib.hid hbo
      clear hbo hb H2
      go_wp2_with fail
      go_roundw
      case rel => exact ⟨k + 1, A', c', L', by omega, by rw [HLq.out], by go_num, BO3.out, PN2.out.2, BL3.out⟩
      case measure => simp [intOf]; omega
    · obtain rfl : k = l.length := by omega
      have hnn : ¬ (l.length : Int) < l.length := by omega
      clear hlt
      go_wp2_with fail
      have hLs := BO.out.srt1.len
      have g1' : (L.length : Int) ≤ 1048576 := by omega
      have hcL := Rs.max BO.out.li
      clear LK hnn HD hdl hdm
      go_loopw [73] (fun i wr => ∃ (k : Nat), k ≤ L.length ∧ i = .int .i64 (k : Int) ∧ B2 N wr g1 g2 (L.drop k) L A L c none [] 0 ∧ Below N W wr) (fun i _ => L.length - (intOf i).toNat)
      case atStart => exact ⟨0, Nat.zero_le _, rfl, BO.out, BL.out⟩
      case round =>
        obtain ⟨k, hk, rfl, hbo, hbl⟩ := hrel
        have BO' := Lib.hid hbo; have BL' := Lib.hid hbl
        have hNr' := hbo.sz
        clear hbo hbl BO BL hNr
        by_cases hlt : k < L.length
        · have j1 : (k : Int) < (L.length : Int) := by omega
          obtain ⟨tb, to_, rfl, ltb, a0, a1⟩ := BO'.out.li.at_ hlt
          have hsrt := BO'.out.srt1
          have hdr : L.drop k = L[k] :: L.drop (k + 1) := List.drop_eq_getElem_cons hlt
          obtain ⟨⟨x, y⟩, hx⟩ : ∃ x, x = L[k] := ⟨_, rfl⟩
          rw [← hx] at a0 a1 hdr
          rw [hdr] at hsrt
          have RF := Lib.hid (rem_first hsrt)
          simp only at a0 a1
          have hn0 : oldN ((x, y) :: L.drop (k + 1)) = 0 := by unfold oldN; rw [if_neg (by simp)]
          obtain ⟨v0, hv0⟩ : ∃ v0, v0 = wr.alloc (.cells #[.int .i64 x, .int .u64 y] 41) := ⟨_, rfl⟩
          obtain ⟨b6, hb6⟩ : ∃ b6, b6 = wr.heap.size := ⟨_, rfl⟩
          have b0 : Below wr.heap.size wr v0 := by rw [hv0]; exact bnew _ _
          have P6 : Hid (Blk v0 b6 #[.int .i64 x, .int .u64 y] 41) := by show Blk _ _ _ _; rw [hv0, hb6]; exact Blk.new _ _ _
          have BL0 := Lib.hid (BL'.out.trans (b0.mono hNr'))
          have hbo := BO'.out.below b0
          rw [hdr] at hbo
          have HF := Lib.hid (hbo.first1 x y rfl hn0)
          have hN0 := hbo.sz
          clear hbo b0 hdr hx hn0 hsrt
          go_upto_region 18 with (fail)
          rw [← hv0, ← hb6]
          clear hv0 hb6 a0 a1
          obtain ⟨y0, y1, _⟩ := P6.out.two
          go_wp2_with fail
          refine HF.out.mono ?_
          rintro r v1 ⟨rfl, hbo, hb⟩
          have P61 := Lib.hid (P6.out.below hb P6.out.lt)
          have BL1 := Lib.hid (BL0.out.trans (hb.mono hN0))
          have HR := Lib.hid (hbo.removes1 x y RF.out.1 RF.out.2.1 RF.out.2.2)
          have hN1 := hbo.sz
          clear hbo hb HF y0 y1
          obtain ⟨y0, y1, _⟩ := P61.out.two
          go_wp2_with fail
          refine HR.out.mono ?_
          rintro r v2 ⟨rfl, hbo, hb⟩
          have BL2 := Lib.hid (BL1.out.trans hb)
          have BO2 := Lib.hid hbo
          clear hbo hb HR y0 y1
          go_wp2_with fail
          go_roundw
          case rel => exact ⟨k + 1, by omega, by go_num, BO2.out, BL2.out⟩
          case measure => simp [intOf]; omega
        · obtain rfl : k = L.length := by omega
          have hnn : ¬ (L.length : Int) < L.length := by omega
          have hbo := BO'.out
          rw [List.drop_length] at hbo
          have BO := Lib.hid hbo
          obtain ⟨R, hR⟩ : ∃ R, R = L.drop (dueK L now) := ⟨_, rfl⟩
          obtain ⟨M, hM⟩ : ∃ M, M = L.take (dueK L now) := ⟨_, rfl⟩
          have HR := Lib.hid hR; have HM := Lib.hid hM
          have hRl : R.length ≤ 1048576 := by rw [hR, List.length_drop]; omega
          have hMl : M.length ≤ 1048576 := by rw [hM, List.length_take]; omega
          have HDU := Lib.hid (Yd.due_any BO.out.li now (Nat.le_trans hLs (by decide)))
          unfold duePost at HDU
          rw [← hR, ← hM] at HDU
          clear hR hM hbo BO' hlt
          go_wp2_with fail
          refine HDU.out.mono ?_
          rintro r v1 ⟨A', c', E', d', rfl, hl, he, hb, hA, hE⟩
          have hbo := BO.out.lists hb hl he (fun a e => Or.inr (hA a e)) (fun a e => Or.inr (hE a e))
          have BL1 := Lib.hid (BL'.out.trans (hb.mono hNr'))
          have HF := Lib.hid (hbo.first1 0 0 (e := 9) rfl rfl)
          have hN1 := hbo.sz
          have hcR := Rs.max hl
          have hcM := Rs.max he
          clear hl he hb hA hE hbo HDU BO
          go_wp2_with fail
          refine HF.out.mono ?_
          rintro r v2 ⟨rfl, hbo, hb⟩
          have BL2 := Lib.hid (BL1.out.trans (hb.mono hN1))
          have HD2 := Lib.hid (hbo.dues2 now HM.out HR.out.symm)
          clear hbo hb HF
          go_wp2_with fail
          refine HD2.out.mono ?_
          rintro r v3 ⟨rfl, hbo, hb⟩
          have BL3 := Lib.hid (BL2.out.trans hb)
          have HL2 := Lib.hid hbo.list2
          clear hbo hb HD2
          go_wp2_with fail
          refine HL2.out.mono ?_
          rintro r v4 ⟨B, b, rfl, hl, hbo, hb⟩
          have BL4 := Lib.hid (BL3.out.trans hb)
          have HS := Lib.hid (same_true rfl hl hbo.li (by omega))
          have hcB := Rs.max hl
          have hN4 := hbo.sz
          unfold boolTo at HS
          clear hbo hb hl HL2
          go_wp2_with fail
          refine HS.out.mono ?_
          rintro r v5 ⟨rfl, hb⟩
          have BL5 := Lib.hid (BL4.out.trans (hb.mono hN4))
          have hz5 := hb.size
          clear hb HS
          go_wp2_with fail
          refine (known_any _).mono ?_
          rintro r v6 ⟨rfl, hbk⟩
          have HBK := Lib.hid hbk
          clear hbk
          go_wp2_with fail
          go_ret
          exact ⟨rfl, BL5.out.trans (HBK.out.mono (by omega))⟩
end Go.Proofs.Ytpalbccoiejmoaa.Ym
