/- Proves what the methods find, look, at, Get, Len and Size of a table return, and what is a key. Conditions: as each theorem names them. -/
import Derived.Test.YthabnffmlgppdaaPa
import Derived.Test.YthabnffmlgppdaaTf
namespace Go.Proofs.Ythabnffmlgppdaa.Pb
open Go.RowKit Ap Mi Nw Rg Hm Tm Tn Ta Pm Pa
open Tf (okK okK_spec Gets)

section
variable {F F' : Nat → Prop} {w w' : World} {g : Nat} {seed m : Int} {c : List (Cell Key)}
set_option maxRecDepth 100000 in
set_option maxHeartbeats 1000000 in
theorem find_any (h : Pl F w g seed m c) (k : Key) (hk : 1 ≤ k.length) (hk2 : k.length ≤ 1000000) {J : Nat} (hJ : First c (stop k) (hom seed c.length k) J) :
    Calls Try.prog 51 #[.pointer (some ⟨g, 0, none⟩), .string ⟨k.toArray⟩] w fun e w' => e = .returned (.tuple #[.int .i64 (pos c.length (hom seed c.length k) J : Nat), .bool (isK k (c.getD (pos c.length (hom seed c.length k) J) none))]) ∧ Below w.heap.size w w' := by
  have hlg := h.lt
  have hlim := h.lim
  have HH := Lib.hid h
  have HM := Lib.hid (phome_any h k hk2)
  have hlt := hom_lt seed _ h.pw.pos k
  have HJ := Lib.hid hJ
  have hJl := hJ.lt
  have HK := Lib.hid hk
  have HY := Lib.hid h.kys
  obtain ⟨a, ha⟩ : ∃ a, a = hom seed c.length k := ⟨_, rfl⟩
  rw [← ha] at HM hlt HJ ⊢
  clear h hJ ha hk
  obtain ⟨N, hN⟩ : ∃ N, N = w.heap.size := ⟨_, rfl⟩
  rw [← hN]
  go_enter Try.func51, Try.ntmps51
  go_wp2_with fail
  refine HM.out.mono ?_
  rintro e w1 ⟨rfl, hb⟩
  have HB1 : Hid (Below N w w1) := by rw [hN]; exact hb
  have HN := Lib.hid hN
  clear hb hN HM
  go_wp2_with fail
  go_loopw [6] (fun i wr => ∃ j : Nat, j ≤ J ∧ i = .int .i64 (pos c.length a j : Nat) ∧ Below N w wr) (fun i _ => J - way c.length a (intOf i).toNat)
  case atStart => exact ⟨0, Nat.zero_le _, by rw [pos_zero hlt], HB1.out⟩
  case round =>
    obtain ⟨j, hj, rfl, hb⟩ := hrel
    have hjl : j < c.length := Nat.lt_of_le_of_lt hj hJl
    have hpl := pos_lt hlt hjl
    have HR := Lib.hid (HH.out.below hb (by have := HN.out; omega))
    have HB := Lib.hid hb
    have hzr := hb.size
    obtain ⟨q, hq⟩ : ∃ q, q = pos c.length a j := ⟨_, rfl⟩
    have HQ := Lib.hid hq
    rw [← hq] at hpl ⊢
    obtain ⟨o, hgo, hgd⟩ := get_of hpl
    have HG := Lib.hid hgo; have HD := Lib.hid hgd
    clear hb hq hgd
    obtain ⟨gA, oA, cap, hB, lA, _, _, e0, e1, _, _, _⟩ := HR.out.slot hgo
    obtain ⟨c0, c1, c2, _⟩ := hB.three
    have lg : g < wr.heap.size := hB.lt
    have i1 : (q : Int) < (c.length : Int) := by omega
    clear hB hgo
    cases o with
    | none =>
      have a0 : wr.cell? ⟨gA, oA + q * 2, none⟩ = some (.string ⟨#[]⟩) := e0
      have a1 : wr.cell? ⟨gA, oA + q * 2 + 1, none⟩ = some (.int .i64 0) := e1
      clear e0 e1
      go_wp2_with fail
      go_ret2
      have hjJ : j = J := by
        rcases Nat.lt_or_ge j J with h1 | h1
        · have := HJ.out.miss j h1
          rw [← HQ.out, HD.out] at this
          cases this
        · omega
      refine ⟨?_, HB.out.trans ((bnew wr _).mono (by have := HN.out; omega))⟩
      rw [← hjJ, ← HQ.out, HD.out]; rfl
    | some ky =>
      obtain ⟨k', x⟩ := ky
      have a0 : wr.cell? ⟨gA, oA + q * 2, none⟩ = some (.string ⟨k'.toArray⟩) := e0
      have a1 : wr.cell? ⟨gA, oA + q * 2 + 1, none⟩ = some (.int .i64 (x : Int)) := e1
      have hk1 := (HY.out k' x (List.mem_of_getElem? HG.out)).1
      have hbe : List.isEmpty k' = false := by cases k' with
        | nil => simp at hk1
        | cons _ _ => rfl
      clear e0 e1
      by_cases he : k' = k
      · have hbk : (k' == k) = true := by simpa using he
        have HE := Lib.hid he
        clear he
        go_wp2_with fail
        go_ret2
        have hjJ : j = J := by
          rcases Nat.lt_or_ge j J with h1 | h1
          · have := HJ.out.miss j h1
            rw [← HQ.out, HD.out] at this
            simp [stop, HE.out] at this
          · omega
        refine ⟨?_, HB.out.trans ((bnew wr _).mono (by have := HN.out; omega))⟩
        rw [← hjJ, ← HQ.out, HD.out]; simp [isK, HE.out]
      · have hbk : (k' == k) = false := by simpa using he
        have HE := Lib.hid he
        clear he
        have bA := bnew wr (.cells #[.string ⟨k'.toArray⟩, .int .i64 (x : Int)] 79)
        have HX := Lib.hid (next_any (HR.out.below bA (Nat.le_refl _)) hpl)
        have HBA := Lib.hid (HB.out.trans (bA.mono (by have := HN.out; omega)))
        have HI : Hid (j < J) := by
          rcases Nat.lt_or_ge j J with h1 | h1
          · exact h1
          · have e : j = J := by omega
            have := HJ.out.hit
            rw [← e, ← HQ.out, HD.out] at this
            simp [stop, HE.out] at this
        clear bA
        go_wp2_with fail
        refine HX.out.mono ?_
        rintro e w4 ⟨rfl, rfl⟩
        go_wp2_with fail
        go_roundw
        case rel => exact ⟨j + 1, HI.out, by rw [HQ.out, pos_succ hlt (by have := HI.out; omega)], HBA.out⟩
        case measure =>
          have e1 : way c.length a q = j := by rw [HQ.out]; exact way_pos hlt hjl
          have e2 : way c.length a (pos c.length q 1) = j + 1 := by rw [HQ.out, pos_succ hlt (by have := HI.out; omega)]; exact way_pos hlt (by have := HI.out; omega)
          have := HI.out
          simp [intOf, e1, e2]; omega
/-- The cell of a key that is there, or a free one. -/
theorem find_there (h : Pl F w g seed m c) (t : Tab (hom seed c.length) c) (k : Key) (hk : 1 ≤ k.length) (hk2 : k.length ≤ 1000000) {i x : Nat} (hi : c[i]? = some (some (k, x))) :
    Calls Try.prog 51 #[.pointer (some ⟨g, 0, none⟩), .string ⟨k.toArray⟩] w fun e w' => e = .returned (.tuple #[.int .i64 (i : Int), .bool true]) ∧ Below w.heap.size w w' := by
  have h2 := find_any h k hk hk2 (look_there t hi)
  rw [pos_way (t.home k) (lt_of_some hi), List.getD_eq_getElem?_getD, hi] at h2
  simpa [isK] using h2
theorem find_gone (h : Pl F w g seed m c) (hf : none ∈ c) (k : Key) (hk : 1 ≤ k.length) (hk2 : k.length ≤ 1000000) (hno : ∀ y, some (k, y) ∉ c) :
    Calls Try.prog 51 #[.pointer (some ⟨g, 0, none⟩), .string ⟨k.toArray⟩] w fun e w' => e = .returned (.tuple #[.int .i64 (gap c (hom seed c.length k) : Int), .bool false]) ∧ Below w.heap.size w w' := by
  have hl := hom_lt seed _ h.pw.pos k
  have h1 := first_any (p := Option.isNone) hl ⟨none, hf, rfl⟩
  have h2 := find_any h k hk hk2 ((look_gone hl hno).2 h1)
  rw [To.find_gone hno] at h2
  exact h2
end
set_option maxHeartbeats 400000 in
theorem pok_any (k : Key) (w : World) (hk : k.length ≤ 140737488355328) :
    Calls Try.prog 50 #[.string ⟨k.toArray⟩] w fun e w' => e = .returned (.bool (okK k)) ∧ w = w' := by
  have HV : Hid (okK k = (decide (1 ≤ k.length) && decide (k.length ≤ 250))) := rfl
  by_cases h0 : 1 ≤ k.length
  · have d0 : decide (1 ≤ k.length) = true := by simpa using h0
    go_enter Try.func50, Try.ntmps50
    go_wp2
    go_ret
    exact ⟨Nw.retB (by rw [HV.out, d0, Bool.eq_iff_iff]; simp; omega), rfl⟩
  · have h2 : k.length < 1 := by omega
    go_enter Try.func50, Try.ntmps50
    go_wp2
    go_ret
    exact ⟨Nw.retB (by rw [HV.out, Bool.eq_iff_iff]; simp; omega), rfl⟩
/-- A table of the program whose cells are those of a table. -/
structure Pt (F : Nat → Prop) (w : World) (g : Nat) (seed : Int) (c : List (Cell Key)) : Prop where
  pl : Pl F w g seed (cnt c : Int) c
  good : To.Good (hom seed) c
section
variable {F F' : Nat → Prop} {w w' : World} {g : Nat} {seed m : Int} {c : List (Cell Key)}
theorem Pt.lt (h : Pt F w g seed c) : g < w.heap.size := h.pl.lt
theorem Pt.mono (h : Pt F w g seed c) (hFG : ∀ j, j < w.heap.size → F j → F' j) : Pt F' w g seed c := ⟨h.pl.mono hFG, h.good⟩
theorem Pt.tight (h : Pt F w g seed c) : Pt (fun j => F j ∧ j < w.heap.size) w g seed c := ⟨h.pl.tight, h.good⟩
theorem Pt.only (h : Pt F w g seed c) (ho : Only F' w w') (hn : ∀ j, F j → ¬ F' j) : Pt F w' g seed c := ⟨h.pl.only ho hn, h.good⟩
theorem Pt.below {B : Nat} (h : Pt F w g seed c) (hb : Below B w w') (hB : w.heap.size ≤ B) : Pt F w' g seed c := ⟨h.pl.below hb hB, h.good⟩
theorem Pt.drewN (h : Pt F w g seed c) (n : Nat) : Pt F (w.drewN n) g seed c := ⟨h.pl.drewN n, h.good⟩
set_option maxRecDepth 100000 in
set_option maxHeartbeats 400000 in
theorem look_bad (h : Pl F w g seed m c) (k : Key) (hk : k.length ≤ 1000000) (n : Int) (hv : okK k = false ∨ n < 0) :
    Calls Try.prog 36 #[.pointer (some ⟨g, 0, none⟩), .string ⟨k.toArray⟩, .int .i64 n] w fun e w' => e = .returned (.tuple #[.int .i64 0, .bool false, .int .i64 2]) ∧ w = w' := by
  have HU := Lib.hid (usable_any h)
  have HV := Lib.hid (pok_any k w (by omega))
  clear h
  cases hv1 : okK k with
  | false =>
    rw [hv1] at HV
    clear hv hv1
    go_enter Try.func36, Try.ntmps36
    go_wp2_with fail
    refine HU.out.mono ?_
    rintro e w1 ⟨rfl, rfl⟩
    go_wp2_with fail
    refine HV.out.mono ?_
    rintro e w1 ⟨rfl, rfl⟩
    go_wp2_with fail
    exact bodyPost_ret (v := .tuple #[.int .i64 0, .bool false, .int .i64 2]) (by simp [results, Try.results36, go_sem]) rfl ⟨rfl, rfl⟩
  | true =>
    have hn1 : n < 0 := by rcases hv with h1 | h1; (rw [hv1] at h1; cases h1); exact h1
    rw [hv1] at HV
    clear hv hv1
    go_enter Try.func36, Try.ntmps36
    go_wp2_with fail
    refine HU.out.mono ?_
    rintro e w1 ⟨rfl, rfl⟩
    go_wp2_with fail
    refine HV.out.mono ?_
    rintro e w1 ⟨rfl, rfl⟩
    go_wp2_with fail
    exact bodyPost_ret (v := .tuple #[.int .i64 0, .bool false, .int .i64 2]) (by simp [results, Try.results36, go_sem]) rfl ⟨rfl, rfl⟩
set_option maxRecDepth 100000 in
set_option maxHeartbeats 400000 in
theorem look_good (h : Pl F w g seed m c) (k : Key) (n : Int) (hv : okK k = true) (hn : 0 ≤ n) {i : Nat} {b : Bool}
    (HF : Calls Try.prog 51 #[.pointer (some ⟨g, 0, none⟩), .string ⟨k.toArray⟩] w fun e w' => e = .returned (.tuple #[.int .i64 (i : Int), .bool b]) ∧ Below w.heap.size w w') :
    Calls Try.prog 36 #[.pointer (some ⟨g, 0, none⟩), .string ⟨k.toArray⟩, .int .i64 n] w fun e w' => e = .returned (.tuple #[.int .i64 (i : Int), .bool b, .int .i64 0]) ∧ Below w.heap.size w w' := by
  have hk := (okK_spec hv).2
  have HU := Lib.hid (usable_any h)
  have HV := Lib.hid (pok_any k w (by omega))
  have HX := Lib.hid HF
  rw [hv] at HV
  have hn' : ¬ n < 0 := by omega
  clear h HF hv
  go_enter Try.func36, Try.ntmps36
  go_wp2_with fail
  refine HU.out.mono ?_
  rintro e w1 ⟨rfl, rfl⟩
  go_wp2_with fail
  refine HV.out.mono ?_
  rintro e w1 ⟨rfl, rfl⟩
  go_wp2_with fail
  refine HX.out.mono ?_
  rintro e w1 ⟨rfl, hb⟩
  have HB := Lib.hid hb
  clear hb
  go_wp2_with fail
  exact bodyPost_ret (v := .tuple #[.int .i64 (i : Int), .bool b, .int .i64 0]) (by simp [results, Try.results36, go_sem]) rfl ⟨rfl, HB.out⟩
/-- What at answers. -/
def At (c : List (Cell Key)) (k : Key) (n : Int) (r e : Int) : Prop :=
  ((okK k = false ∨ n < 0) ∧ r = 0 ∧ e = 2) ∨ (okK k = true ∧ 0 ≤ n ∧ (∃ i x : Nat, c[i]? = some (some (k, x)) ∧ r = (i : Int)) ∧ e = 0) ∨ (okK k = true ∧ 0 ≤ n ∧ (∀ y, some (k, y) ∉ c) ∧ e = 9)
set_option maxRecDepth 100000 in
set_option maxHeartbeats 400000 in
theorem at_any (h : Pt F w g seed c) (k : Key) (hk : k.length ≤ 1000000) (n : Int) :
    Calls Try.prog 42 #[.pointer (some ⟨g, 0, none⟩), .string ⟨k.toArray⟩, .int .i64 n] w fun q w' => ∃ r e, q = .returned (.tuple #[.int .i64 r, .int .i64 e]) ∧ At c k n r e ∧ Below w.heap.size w w' := by
  by_cases hv : okK k = false ∨ n < 0
  · have HL := Lib.hid (look_bad h.pl k hk n hv)
    have HA : Hid (At c k n 0 2) := Or.inl ⟨hv, rfl, rfl⟩
    clear h hv
    go_enter Try.func42, Try.ntmps42
    go_wp2_with fail
    refine HL.out.mono ?_
    rintro e w1 ⟨rfl, rfl⟩
    go_wp2_with fail
    go_ret2
    exact ⟨_, _, rfl, HA.out, Below.refl _ _⟩
  · obtain ⟨hv1, hn⟩ : okK k = true ∧ 0 ≤ n := by
      cases e : okK k with
      | false => exact absurd (Or.inl e) hv
      | true => exact ⟨rfl, by
          rcases Int.lt_or_le n 0 with h1 | h1
          · exact absurd (Or.inr h1) hv
          · exact h1⟩
    have hk1 := (okK_spec hv1).1
    by_cases hth : ∃ y, some (k, y) ∈ c
    · obtain ⟨y, hy⟩ := hth
      obtain ⟨i, hi⟩ := List.mem_iff_getElem?.1 hy
      have HL := Lib.hid (look_good h.pl k n hv1 hn (find_there h.pl h.good.tab k hk1 hk hi))
      have HA : Hid (At c k n (i : Int) 0) := Or.inr (Or.inl ⟨hv1, hn, ⟨i, y, hi, rfl⟩, rfl⟩)
      clear h hv hv1 hi hy hn
      go_enter Try.func42, Try.ntmps42
      go_wp2_with fail
      refine HL.out.mono ?_
      rintro e w1 ⟨rfl, hb⟩
      have HB := Lib.hid hb
      clear hb
      go_wp2_with fail
      go_ret2
      exact ⟨_, _, rfl, HA.out, HB.out⟩
    · have hno : ∀ y, some (k, y) ∉ c := fun y hy => hth ⟨y, hy⟩
      have HL := Lib.hid (look_good h.pl k n hv1 hn (find_gone h.pl h.good.free k hk1 hk hno))
      obtain ⟨z, hz⟩ : ∃ z, z = gap c (hom seed c.length k) := ⟨_, rfl⟩
      rw [← hz] at HL
      have HA : Hid (At c k n (z : Int) 9) := Or.inr (Or.inr ⟨hv1, hn, hno, rfl⟩)
      clear h hv hv1 hz hn hth hno
      go_enter Try.func42, Try.ntmps42
      go_wp2_with fail
      refine HL.out.mono ?_
      rintro e w1 ⟨rfl, hb⟩
      have HB := Lib.hid hb
      clear hb
      go_wp2_with fail
      go_ret2
      exact ⟨_, _, rfl, HA.out, HB.out⟩
set_option maxRecDepth 100000 in
set_option maxHeartbeats 400000 in
theorem get_any (h : Pt F w g seed c) (k : Key) (hk : k.length ≤ 1000000) {n e : Int} (hG : Gets c k n e) :
    Calls Try.prog 43 #[.pointer (some ⟨g, 0, none⟩), .string ⟨k.toArray⟩] w fun q w' => q = .returned (.tuple #[.int .i64 n, .int .i64 e]) ∧ Below w.heap.size w w' := by
  have HA := Lib.hid (at_any h k hk 0)
  have HG := Lib.hid hG
  have HH := Lib.hid h
  clear h hG
  go_enter Try.func43, Try.ntmps43
  go_wp2_with fail
  refine HA.out.mono ?_
  rintro q w1 ⟨r, f, rfl, hat, hb⟩
  have H1 := Lib.hid (HH.out.below hb (Nat.le_refl _))
  have HB := Lib.hid hb
  clear hb HA
  rcases hat with ⟨hv, rfl, rfl⟩ | ⟨hv, _, ⟨i, x, hi, rfl⟩, rfl⟩ | ⟨hv, _, hno, rfl⟩
  · have HE : Hid (n = 0 ∧ e = 2) := by
      rcases HG.out with ⟨_, h1, h2⟩ | ⟨h1, _, _⟩ | ⟨h1, _, _⟩
      · exact ⟨h1, h2⟩
      · rcases hv with h2 | h2
        · rw [h1] at h2; cases h2
        · omega
      · rcases hv with h2 | h2
        · rw [h1] at h2; cases h2
        · omega
    clear hv
    go_wp2_with fail
    go_ret2
    obtain ⟨h1, h2⟩ := HE.out
    subst h1; subst h2
    exact ⟨rfl, HB.out⟩
  · have HE : Hid (n = (x : Int) ∧ e = 0) := by
      rcases HG.out with ⟨h1, _, _⟩ | ⟨_, ⟨i', x', h1, h2⟩, h3⟩ | ⟨_, h1, _⟩
      · rw [hv] at h1; cases h1
      · have := To.num_one HH.out.good (List.mem_of_getElem? hi) (List.mem_of_getElem? h1)
        exact ⟨by rw [h2, this], h3⟩
      · exact absurd (List.mem_of_getElem? hi) (h1 x)
    obtain ⟨gA, oA, cap, hB, lA, _, _, e0, e1, _, _, _⟩ := H1.out.pl.slot hi
    obtain ⟨c0, c1, c2, _⟩ := hB.three
    have lg : g < w1.heap.size := hB.lt
    have i1 : (i : Int) < (c.length : Int) := by have := lt_of_some hi; omega
    have hlim := H1.out.pl.lim
    have a1 : w1.cell? ⟨gA, oA + i * 2 + 1, none⟩ = some (.int .i64 (x : Int)) := e1
    clear hB e0 e1 hi hv
    go_wp2_with fail
    go_ret2
    obtain ⟨h1, h2⟩ := HE.out
    subst h1; subst h2
    exact ⟨rfl, HB.out⟩
  · have HE : Hid (n = 0 ∧ e = 9) := by
      rcases HG.out with ⟨h1, _, _⟩ | ⟨_, ⟨i', x', h1, h2⟩, h3⟩ | ⟨_, _, h1, h2⟩
      · rw [hv] at h1; cases h1
      · exact absurd (List.mem_of_getElem? h1) (hno x')
      · exact ⟨h1, h2⟩
    clear hv hno
    go_wp2_with fail
    go_ret2
    obtain ⟨h1, h2⟩ := HE.out
    subst h1; subst h2
    exact ⟨rfl, HB.out⟩
set_option maxRecDepth 100000 in
set_option maxHeartbeats 400000 in
theorem plen_any (h : Pt F w g seed c) : Calls Try.prog 17 #[.pointer (some ⟨g, 0, none⟩)] w fun e w' => e = .returned (.int .i64 (cnt c : Int)) ∧ w = w' := by
  obtain ⟨A, cap, h1, _⟩ := h.pl.has
  obtain ⟨c0, c1, c2, _⟩ := h1.three
  obtain ⟨x, hx⟩ : ∃ x, x = cnt c := ⟨_, rfl⟩
  rw [← hx] at c2 ⊢
  clear h h1 hx
  go_enter Try.func17, Try.ntmps17
  go_wp2_with fail
  go_ret
  exact ⟨rfl, rfl⟩
set_option maxRecDepth 100000 in
set_option maxHeartbeats 400000 in
theorem size_any (h : Pl F w g seed m c) : Calls Try.prog 16 #[.pointer (some ⟨g, 0, none⟩)] w fun e w' => e = .returned (.int .i64 (c.length : Int)) ∧ w = w' := by
  obtain ⟨A, cap, h1, _⟩ := h.has
  obtain ⟨c0, c1, c2, _⟩ := h1.three
  clear h h1
  go_enter Try.func16, Try.ntmps16
  go_wp2_with fail
  go_ret
  exact ⟨rfl, rfl⟩
end
end Go.Proofs.Ythabnffmlgppdaa.Pb
