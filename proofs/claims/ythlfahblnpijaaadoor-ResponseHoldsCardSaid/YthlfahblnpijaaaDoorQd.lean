/- Proves what the reader of package request takes: numbers, bytes, strings, lists, and whether it has failed. Conditions: few bytes. -/
import Derived.Test.YthlfahblnpijaaaDoorQe
import Derived.Test.YthlfahblnpijaaaDoorVsa
namespace Go.Proofs.YthlfahblnpijaaaDoor.Qd
open Go.RowKit Vm Ap Vw Va Vc Vp Vn Vs Gc Mi Mb Qm Qs Qe

/-- The reader in block h, whose bytes come out of the reader in block g: what is left, or none where it has failed. -/
structure Rq (B : Nat) (w : World) (g h : Nat) (st : Option Bs) : Prop where
  hd : w.heap[h]? = some (.cells #[.pointer (some ⟨g, 0, none⟩), .bool st.isNone] 75 (0, 0))
  rd : ∃ l, Rdr B w g l ∧ l.length ≤ 2097152 ∧ ∀ l', st = some l' → l' = l
theorem Rq.lt {B : Nat} {w : World} {g h : Nat} {st : Option Bs} (q : Rq B w g h st) : h < w.heap.size := (Array.getElem?_eq_some_iff.1 q.hd).1
theorem Rq.ne {B : Nat} {w : World} {g h : Nat} {st : Option Bs} (q : Rq B w g h st) : h ≠ g := by
  obtain ⟨l, hr, _⟩ := q.rd
  obtain ⟨A, c, h1, _⟩ := hr
  intro e
  have := q.hd
  rw [e, h1] at this
  cases this
theorem Rdr.set {B : Nat} {w : World} {g h : Nat} {l : Bs} {t : TypeId} (hr : Rdr B w g l) (hd : w.heap[h]? = some (.cells #[.pointer (some ⟨g, 0, none⟩), .bool true] t (0, 0)) ∨ w.heap[h]? = some (.cells #[.pointer (some ⟨g, 0, none⟩), .bool false] t (0, 0))) (hne : h ≠ g) (u : Value) : Rdr B (w.setCell ⟨h, 1, none⟩ u) g l := by
  obtain ⟨A, c, h1, h2, h3, h4, h5, h6, h7⟩ := hr
  refine ⟨A, c, (heap_setCell_other w ⟨h, 1, none⟩ g _ (fun e => hne e.symm)).trans h1, h2, h3, h4, h5, fun h0 => ?_, h7⟩
  obtain ⟨b', o, e, hlt, hc⟩ := h6 h0
  refine ⟨b', o, e, by simpa using hlt, fun j hj => ?_⟩
  have hcj := hc j hj
  have hb : b' ≠ h := by
    intro e'
    subst e'
    rcases hd with hd | hd
    all_goals
      rw [cell_of_row w _ (o + j) _ _ _ hd] at hcj
      match h : o + j with
      | 0 => rw [h] at hcj; cases hcj
      | 1 => rw [h] at hcj; cases hcj
      | k + 2 => rw [h] at hcj; cases hcj
  rw [World.cell?_of_block (heap_setCell_other w ⟨h, 1, none⟩ b' _ hb)]
  exact hcj
theorem Rq.cel {B : Nat} {w : World} {g h : Nat} {st : Option Bs} (q : Rq B w g h st) : Cel w h (.pointer (some ⟨g, 0, none⟩)) (.bool st.isNone) :=
  ⟨by rw [cell_of_row _ _ 0 _ _ (0, 0) q.hd]; rfl, by rw [cell_of_row _ _ 1 _ _ (0, 0) q.hd]; rfl, frozen_of_row _ _ 0 _ _ q.hd, frozen_of_row _ _ 1 _ _ q.hd⟩
/-- The flag is set behind a call that took something. -/
theorem Rq.flag {B : Nat} {w w' : World} {g h : Nat} {st : Option Bs} (q : Rq B w g h st) {l : Bs} (hr : Rdr B w' g l) (hl : l.length ≤ 2097152) (hg : w.grownBy w' (some g)) (st' : Option Bs) (hs : ∀ l', st' = some l' → l' = l) : Rq B (w'.setCell ⟨h, 1, none⟩ (.bool st'.isNone)) g h st' := by
  have hd' : w'.heap[h]? = some (.cells #[.pointer (some ⟨g, 0, none⟩), .bool st.isNone] 75 (0, 0)) := by
    rw [hg.block h q.lt (fun e => q.ne (by injection e))]; exact q.hd
  refine ⟨?_, l, Rdr.set (t := 75) hr (by cases h : st.isNone <;> rw [h] at hd' <;> simp [hd']) q.ne _, hl, hs⟩
  rw [heap_setCell_same w' h 1 _ _ _ hd']
  rfl
def Two (g h : Nat) (j : Nat) : Prop := j = g ∨ j = h
theorem only_two {w w' : World} {g h : Nat} (hg : w.grownBy w' (some g)) (u : Value) : Only (Two g h) w (w'.setCell ⟨h, 1, none⟩ u) :=
  (Only.of_grown hg (fun k e => by injection e with e; exact Or.inl e.symm)).put (Or.inr rfl) _
theorem Rq.below {B B' : Nat} {w w' : World} {g h : Nat} {st : Option Bs} (q : Rq B w g h st) (hb : Below B' w w') (hB : w.heap.size ≤ B') : Rq B w' g h st := by
  obtain ⟨l, hr, h1, h2⟩ := q.rd
  have := q.lt
  exact ⟨by rw [hb.block h (by omega)]; exact q.hd, l, hr.below hb hB, h1, h2⟩

def tkN (B : Nat) (w : World) (g h : Nat) (st : Option Bs) : Ending → World → Prop := fun e w' =>
  ∃ n : Nat, e = .returned (.int .u64 (n : Int)) ∧ n < big ∧ (∀ p, st.bind rdN = some p → p.1 = n) ∧ Rq B w' g h ((st.bind rdN).map (·.2)) ∧ Only (Two g h) w w'
def tkB (B : Nat) (w : World) (g h : Nat) (st : Option Bs) : Ending → World → Prop := fun e w' =>
  ∃ v p, e = .returned v ∧ Own w.heap.size w' v p ∧ p.length ≤ 65536 ∧ (∀ q, st.bind rdS = some q → q.1 = p) ∧ Rq B w' g h ((st.bind rdS).map (·.2)) ∧ Only (Two g h) w w'
def tkT (B : Nat) (w : World) (g h : Nat) (st : Option Bs) : Ending → World → Prop := fun e w' =>
  ∃ p : Bs, e = .returned (.string ⟨p.toArray⟩) ∧ p.length ≤ 65536 ∧ (∀ q, st.bind rdS = some q → q.1 = p) ∧ Rq B w' g h ((st.bind rdS).map (·.2)) ∧ Only (Two g h) w w'

set_option maxRecDepth 100000 in
set_option maxHeartbeats 1000000 in
theorem number_r (B : Nat) (w : World) (g h : Nat) (st : Option Bs) (hq : Rq B w g h st) :
    Calls Tryd.prog 40 #[.pointer (some ⟨h, 0, none⟩)] w (tkN B w g h st) := by
  obtain ⟨l, hr, hl, hs⟩ := hq.rd
  have HQ := Lib.hid hq
  have HS := Lib.hid hs
  have HN := Lib.hid (number_any B w g l hr (by omega))
  have ce := hq.cel
  have hlt := hq.lt
  have hne := hq.ne
  have hdl : (l.drop (getS l)).length ≤ 2097152 := by rw [List.length_drop]; omega
  have hn1 := (get_lt l).1
  have HD := Lib.hid hdl
  obtain ⟨x0, x1, f0, f1⟩ := ce
  clear hq hr hs hdl
  unfold tookPost numR at HN
  have HF : Hid (∀ w', Rdr B w' g (l.drop (getS l)) → w.grownBy w' (some g) → ∀ st', (∀ l', st' = some l' → l' = l.drop (getS l)) → Rq B (w'.setCell ⟨h, 1, none⟩ (.bool st'.isNone)) g h st') := fun w' h1 h2 st' h3 => HQ.out.flag h1 HD.out h2 st' h3
  have fin : Hid (∀ w', Rdr B w' g (l.drop (getS l)) → w.grownBy w' (some g) → tkN B w g h st (.returned (.int .u64 (getN l : Int))) (w'.setCell ⟨h, 1, none⟩ (.bool (st.isNone || decide (getE l ≠ 0))))) := fun w' h1 h2 => by
    cases st with
    | none => exact ⟨getN l, rfl, hn1, (fun p hp => by cases hp), HF.out w' h1 h2 none (fun l' e => by cases e), only_two h2 _⟩
    | some l0 =>
      obtain rfl := HS.out l0 rfl
      by_cases he : getE l0 = 0
      · have e1 : rdN l0 = some (getN l0, l0.drop (getS l0)) := by unfold rdN; rw [if_pos he]
        refine ⟨getN l0, rfl, hn1, fun p hp => ?_, ?_, only_two h2 _⟩
        · rw [Option.bind_some, e1] at hp; cases hp; rfl
        · have := HF.out w' h1 h2 (some (l0.drop (getS l0))) (fun l' e => by injection e with e; exact e.symm)
          rw [Option.bind_some, e1]
          simpa [he] using this
      · have e1 : rdN l0 = none := by unfold rdN; rw [if_neg he]
        refine ⟨getN l0, rfl, hn1, fun p hp => ?_, ?_, only_two h2 _⟩
        · rw [Option.bind_some, e1] at hp; cases hp
        · have := HF.out w' h1 h2 none (fun l' e => by cases e)
          rw [Option.bind_some, e1]
          simpa [he] using this
  clear HF HD
  unfold big at hn1
  generalize getN l = n at *
  obtain ⟨E, hE⟩ : ∃ E, E = getE l := ⟨_, rfl⟩
  rw [← hE] at HN fin
  clear hE
  obtain ⟨sn, hsn⟩ : ∃ b, b = st.isNone := ⟨_, rfl⟩
  rw [← hsn] at x1 fin
  clear hsn HS
  by_cases he : E = 0
  · have hb : ((E : Int) != 0) = false := by rw [he]; rfl
    have hd : Hid (decide (E ≠ 0) = false) := by show _ = _; simp [he]
    rw [hd.out] at fin
    clear he hd
    cases sn
    all_goals
      go_enter Tryd.func40, Tryd.ntmps40
      go_wp2_with fail
      refine HN.out.mono ?_
      rintro e w' ⟨rfl, h1, h2⟩
      have H1 := Lib.hid h1; have H2 := Lib.hid h2
      have y1 : w'.cell? ⟨h, 1, none⟩ = some (.bool _) := (World.cell?_of_block (a := ⟨h, 1, none⟩) (h2.block h hlt (fun e => hne (by injection e)))).trans x1
      have z1 : w'.frozen? ⟨h, 1, none⟩ = false := (World.frozen?_of_block (a := ⟨h, 1, none⟩) (h2.block h hlt (fun e => hne (by injection e)))).trans f1
      clear h1 h2
      go_wp2_with fail
      go_ret
      exact fin.out _ H1.out H2.out
  · have hb : ((E : Int) != 0) = true := by rw [bne_iff_ne]; omega
    have hd : Hid (decide (E ≠ 0) = true) := by show _ = _; simp [he]
    rw [hd.out] at fin
    clear he hd
    cases sn
    all_goals
      go_enter Tryd.func40, Tryd.ntmps40
      go_wp2_with fail
      refine HN.out.mono ?_
      rintro e w' ⟨rfl, h1, h2⟩
      have H1 := Lib.hid h1; have H2 := Lib.hid h2
      have y1 : w'.cell? ⟨h, 1, none⟩ = some (.bool _) := (World.cell?_of_block (a := ⟨h, 1, none⟩) (h2.block h hlt (fun e => hne (by injection e)))).trans x1
      have z1 : w'.frozen? ⟨h, 1, none⟩ = false := (World.frozen?_of_block (a := ⟨h, 1, none⟩) (h2.block h hlt (fun e => hne (by injection e)))).trans f1
      clear h1 h2
      go_wp2_with fail
      go_ret
      exact fin.out _ H1.out H2.out
theorem part_le (l : Bs) : (partV l 65536).1.length ≤ 65536 := by
  by_cases h : (partV l 65536).2.2 = 0
  · exact (rdS_has (l := l) (s := (partV l 65536).1) (r := l.drop (partV l 65536).2.1) (by unfold rdS; rw [if_pos h])).2
  · rw [(part_zero h).1]; simp
set_option maxRecDepth 100000 in
set_option maxHeartbeats 1000000 in
theorem bytes_r (B : Nat) (w : World) (g h : Nat) (st : Option Bs) (hq : Rq B w g h st) :
    Calls Tryd.prog 39 #[.pointer (some ⟨h, 0, none⟩)] w (tkB B w g h st) := by
  obtain ⟨l, hr, hl, hs⟩ := hq.rd
  have HQ := Lib.hid hq
  have HS := Lib.hid hs
  have HN := Lib.hid (bytes_any B w g l 65536 hr (by omega) (by omega) (by omega))
  have ce := hq.cel
  have hlt := hq.lt
  have hne := hq.ne
  have hdl : (l.drop (partV l 65536).2.1).length ≤ 2097152 := by rw [List.length_drop]; omega
  have HD := Lib.hid hdl
  have HPL := Lib.hid (part_le l)
  obtain ⟨x0, x1, f0, f1⟩ := ce
  clear hq hr hs hdl
  unfold tookB at HN
  have HF : Hid (∀ w', Rdr B w' g (l.drop (partV l 65536).2.1) → w.grownBy w' (some g) → ∀ st', (∀ l', st' = some l' → l' = l.drop (partV l 65536).2.1) → Rq B (w'.setCell ⟨h, 1, none⟩ (.bool st'.isNone)) g h st') := fun w' h1 h2 st' h3 => HQ.out.flag h1 HD.out h2 st' h3
  have fin : Hid (∀ w' v, Own w.heap.size w' v (partV l 65536).1 → Rdr B w' g (l.drop (partV l 65536).2.1) → w.grownBy w' (some g) → tkB B w g h st (.returned v) (w'.setCell ⟨h, 1, none⟩ (.bool (st.isNone || decide ((partV l 65536).2.2 ≠ 0))))) := fun w' v h0 h1 h2 => by
    have ho := ownsRow_setCell_below h0 (a := ⟨h, 1, none⟩) hlt (.bool (st.isNone || decide ((partV l 65536).2.2 ≠ 0)))
    cases st with
    | none => exact ⟨v, _, rfl, ho, HPL.out, (fun p hp => by cases hp), HF.out w' h1 h2 none (fun l' e => by cases e), only_two h2 _⟩
    | some l0 =>
      obtain rfl := HS.out l0 rfl
      by_cases he : (partV l0 65536).2.2 = 0
      · have e1 : rdS l0 = some ((partV l0 65536).1, l0.drop (partV l0 65536).2.1) := by unfold rdS; rw [if_pos he]
        refine ⟨v, _, rfl, ho, HPL.out, fun p hp => ?_, ?_, only_two h2 _⟩
        · rw [Option.bind_some, e1] at hp; cases hp; rfl
        · have := HF.out w' h1 h2 (some (l0.drop (partV l0 65536).2.1)) (fun l' e => by injection e with e; exact e.symm)
          rw [Option.bind_some, e1]
          simpa [he] using this
      · have e1 : rdS l0 = none := by unfold rdS; rw [if_neg he]
        refine ⟨v, _, rfl, ho, HPL.out, fun p hp => ?_, ?_, only_two h2 _⟩
        · rw [Option.bind_some, e1] at hp; cases hp
        · have := HF.out w' h1 h2 none (fun l' e => by cases e)
          rw [Option.bind_some, e1]
          simpa [he] using this
  clear HF HD HPL
  obtain ⟨E, hE⟩ : ∃ E, E = (partV l 65536).2.2 := ⟨_, rfl⟩
  rw [← hE] at HN fin
  clear hE
  obtain ⟨sn, hsn⟩ : ∃ b, b = st.isNone := ⟨_, rfl⟩
  rw [← hsn] at x1 fin
  generalize (partV l 65536).2.1 = sz at *
  generalize (partV l 65536).1 = p at *
  clear hsn HS
  by_cases he : E = 0
  · have hb : ((E : Int) != 0) = false := by rw [he]; rfl
    have hd : Hid (decide (E ≠ 0) = false) := by show _ = _; simp [he]
    rw [hd.out] at fin
    clear he hd
    cases sn
    all_goals
      go_enter Tryd.func39, Tryd.ntmps39
      go_wp2_with fail
      refine HN.out.mono ?_
      rintro e w' ⟨v, rfl, h0, h1, h2⟩
      obtain ⟨X, d, sh⟩ := own_shape h0
      obtain rfl := sh.val
      have H0 := Lib.hid h0; have H1 := Lib.hid h1; have H2 := Lib.hid h2
      have y1 : w'.cell? ⟨h, 1, none⟩ = some (.bool _) := (World.cell?_of_block (a := ⟨h, 1, none⟩) (h2.block h hlt (fun e => hne (by injection e)))).trans x1
      have z1 : w'.frozen? ⟨h, 1, none⟩ = false := (World.frozen?_of_block (a := ⟨h, 1, none⟩) (h2.block h hlt (fun e => hne (by injection e)))).trans f1
      clear h0 h1 h2 sh
      go_wp2_with fail
      go_ret
      exact fin.out _ _ H0.out H1.out H2.out
  · have hb : ((E : Int) != 0) = true := by rw [bne_iff_ne]; omega
    have hd : Hid (decide (E ≠ 0) = true) := by show _ = _; simp [he]
    rw [hd.out] at fin
    clear he hd
    cases sn
    all_goals
      go_enter Tryd.func39, Tryd.ntmps39
      go_wp2_with fail
      refine HN.out.mono ?_
      rintro e w' ⟨v, rfl, h0, h1, h2⟩
      obtain ⟨X, d, sh⟩ := own_shape h0
      obtain rfl := sh.val
      have H0 := Lib.hid h0; have H1 := Lib.hid h1; have H2 := Lib.hid h2
      have y1 : w'.cell? ⟨h, 1, none⟩ = some (.bool _) := (World.cell?_of_block (a := ⟨h, 1, none⟩) (h2.block h hlt (fun e => hne (by injection e)))).trans x1
      have z1 : w'.frozen? ⟨h, 1, none⟩ = false := (World.frozen?_of_block (a := ⟨h, 1, none⟩) (h2.block h hlt (fun e => hne (by injection e)))).trans f1
      clear h0 h1 h2 sh
      go_wp2_with fail
      go_ret
      exact fin.out _ _ H0.out H1.out H2.out

set_option maxRecDepth 100000 in
set_option maxHeartbeats 1000000 in
theorem text_r (B : Nat) (w : World) (g h : Nat) (st : Option Bs) (hq : Rq B w g h st) :
    Calls Tryd.prog 37 #[.pointer (some ⟨h, 0, none⟩)] w (tkT B w g h st) := by
  have HB := Lib.hid (bytes_r B w g h st hq)
  clear hq
  go_enter Tryd.func37, Tryd.ntmps37
  go_wp2_with fail
  refine HB.out.mono ?_
  rintro e w' ⟨v, p, rfl, h0, h1, h2, h3, h4⟩
  obtain ⟨X, d, sh⟩ := own_shape h0
  obtain rfl := sh.val
  have hcv := conv_str d sh.rd
  have H1 := Lib.hid h1; have H2 := Lib.hid h2; have H3 := Lib.hid h3; have H4 := Lib.hid h4
  clear h0 h1 h2 h3 h4 sh
  go_wp2_with fail
  go_ret
  exact ⟨p, rfl, H1.out, H2.out, H3.out, H4.out⟩
def tkL (B : Nat) (w : World) (g h : Nat) (st : Option Bs) : Ending → World → Prop := fun e w' =>
  ∃ v ls, e = .returned v ∧ Ows w.heap.size w' v ls ∧ ls.length ≤ 16 ∧ (∀ s ∈ ls, s.length ≤ 65536) ∧ (∀ q, st.bind rdL = some q → q.1 = ls) ∧ Rq B w' g h ((st.bind rdL).map (·.2)) ∧ Only (Two g h) w w'
theorem ows_only {B : Nat} {w w' : World} {v : Value} {l : List Bs} (hv : Ows B w v l) {F : Nat → Prop} (ho : Only F w w') (hF : ∀ j, B ≤ j → ¬ F j) : Ows B w' v l := by
  refine ⟨hv.1, ?_⟩
  rcases hv.2 with h2 | ⟨k, cap, cur, hv', hBg, hg, r⟩
  · exact Or.inl h2
  · have hlt : k < w.heap.size := (Array.getElem?_eq_some_iff.1 hg).1
    exact Or.inr ⟨k, cap, cur, hv', hBg, by rw [ho.block k hlt (hF k hBg)]; exact hg, r⟩
/-- Reading on, one string more. -/
theorem many_step {st : Option Bs} {n k : Nat} (hk : k < n) : (st.bind (rdMany (n - k))) = (st.bind rdS).bind fun p => (rdMany (n - (k + 1)) p.2).map fun q => (p.1 :: q.1, q.2) := by
  cases st with
  | none => rfl
  | some l =>
    rw [Option.bind_some, Option.bind_some, show n - k = (n - (k + 1)) + 1 from by omega, rdMany]
    cases rdS l with
    | none => rfl
    | some p => rfl
theorem many_on {st : Option Bs} {n k : Nat} (hk : k < n) (acc : List Bs) (p : Bs) (hp : ∀ q, st.bind rdS = some q → q.1 = p) :
    ((((st.bind rdS).map (·.2)).bind (rdMany (n - (k + 1)))).map fun q => ((acc ++ [p]) ++ q.1, q.2)) = (st.bind (rdMany (n - k))).map fun q => (acc ++ q.1, q.2) := by
  rw [many_step hk]
  cases h : st.bind rdS with
  | none => rfl
  | some q =>
    have := hp q h
    simp only [Option.map_some, Option.bind_some, Option.map_map]
    congr 1
    funext x
    simp [this]

set_option maxRecDepth 100000 in
set_option maxHeartbeats 2000000 in
theorem list_r (B : Nat) (w : World) (g h : Nat) (st : Option Bs) (hq : Rq B w g h st) :
    Calls Tryd.prog 38 #[.pointer (some ⟨h, 0, none⟩), .int .i64 16] w (tkL B w g h st) := by
  have HN := Lib.hid (number_r B w g h st hq)
  have hlt := hq.lt
  have hgl : g < w.heap.size := by obtain ⟨l, hr, _⟩ := hq.rd; exact hr.lt
  clear hq
  go_enter Tryd.func38, Tryd.ntmps38
  go_wp2_with fail
  refine HN.out.mono ?_
  rintro e w1 ⟨n, rfl, hn, h1, hq1, ho1⟩
  have H1 := Lib.hid h1; have HQ1 := Lib.hid hq1; have HO1 := Lib.hid ho1
  have hz1 := ho1.size
  unfold big at hn
  clear h1 ho1
  by_cases h16 : 16 < n
  · have hi : (16 : Int) < n := by omega
    obtain ⟨x0, x1, f0, f1⟩ := hq1.cel
    have HR : Hid (st.bind rdL = none) := by
      show _ = _
      cases st with
      | none => rfl
      | some l =>
        show rdL l = none
        unfold rdL
        cases hN : rdN l with
        | none => rfl
        | some q =>
          have := H1.out q hN
          simp only
          rw [if_pos (by omega)]
    have HF : Hid (Rq B (w1.setCell ⟨h, 1, none⟩ (.bool true)) g h none) := by
      obtain ⟨l, hr, hl, _⟩ := hq1.rd
      exact hq1.flag hr hl (World.grownBy.refl _ _) none (fun l' e => by cases e)
    clear h16 hq1
    go_wp2_with fail
    go_ret
    exact ⟨_, [], rfl, ows_nil _ _, by simp, by simp, (by rw [HR.out]; intro q hq; cases hq), by rw [HR.out]; exact HF.out, HO1.out.put (Or.inr rfl) _⟩
  · have hi : (n : Int) ≤ 16 := by omega
    have HR : Hid (st.bind rdL = ((st.bind rdN).map (·.2)).bind (rdMany n)) := by
      show _ = _
      cases st with
      | none => rfl
      | some l =>
        show rdL l = _
        unfold rdL
        cases hN : rdN l with
        | none => simp [hN]
        | some q =>
          have := H1.out q hN
          obtain ⟨m, r⟩ := q
          simp only at this
          subst this
          simp only [Option.bind_some, hN, Option.map_some]
          rw [if_neg h16]
    obtain ⟨st1, hst1⟩ : ∃ s, s = (st.bind rdN).map (·.2) := ⟨_, rfl⟩
    rw [← hst1] at HR HQ1 hq1
    clear h16 hst1 hq1
    go_wp2_with fail
    go_loopw [6, 17] (fun u i wr => ∃ (k : Nat) (acc : List Bs) (sk : Option Bs), k ≤ n ∧ i = .int .u64 (k : Int) ∧ Ows w.heap.size wr u acc ∧ acc.length = k ∧ (∀ s ∈ acc, s.length ≤ 65536) ∧ Rq B wr g h sk ∧ ((sk.bind (rdMany (n - k))).map fun q => (acc ++ q.1, q.2)) = st1.bind (rdMany n) ∧ Only (Two g h) w wr) (fun _ i _ => n - (intOf i).toNat)
    case atStart => exact ⟨0, [], st1, Nat.zero_le _, rfl, ows_nil _ _, rfl, by simp, HQ1.out, by simp, HO1.out⟩
    case round =>
      obtain ⟨k, acc, sk, hk, rfl, hown, hal, hsl, hqk, heq, hok⟩ := hrel
      obtain ⟨wo, rfl⟩ : ∃ wo : World, wo = wr := ⟨_, rfl⟩
      have HOW := Lib.hid hown; have HSL := Lib.hid hsl; have HEQ := Lib.hid heq; have HOK := Lib.hid hok
      have hz := hok.size
      have HT := Lib.hid (text_r B wo g h sk hqk)
      have HAL := Lib.hid hal
      have hal1 : acc.length ≤ 16 := by omega
      by_cases hltk : k < n
      · have i1 : (k : Int) < n := by omega
        clear hown hsl heq hok hqk hal
        go_wp2_with fail
        refine HT.out.mono ?_
        rintro e w2 ⟨p, rfl, hp1, hp2, hq2, ho2⟩
        have HP1 := Lib.hid hp1; have HQ2 := Lib.hid hq2
        have HON := Lib.hid (many_on hltk acc p hp2)
        have H2 := Lib.hid (ows_only HOW.out ho2 (fun j hj e => by rcases e with e | e <;> omega))
        have HO2 := Lib.hid (HOK.out.trans (ho2.mono (fun j _ e => Or.inl e)))
        have hz2 : w.heap.size ≤ w2.heap.size := HO2.out.size
        clear hp1 hp2 hq2 ho2
        go_wp2_with (at_builtin; (refine wpList_app rfl _ _ elS rfl rfl (ows_row H2.out) #[.string ⟨p.toArray⟩] rfl (by simp; rfl) (by omega) (by simp) hz2 ?_))
        intro v3 w3 hown3 hg3
        have H3 : Hid (Ows w.heap.size w3 v3 (acc ++ [p])) := by
          show Ows _ _ _ _
          unfold Ows
          rw [List.length_append, List.map_append]
          exact hown3
        have B3 : Below w.heap.size w2 w3 := (Below.refl _ _).grown hg3 hz2 (fun j hj => ((ows_row H2.out).lt j hj).1)
        have HO3 : Hid (Only (Two g h) w w3) := HO2.out.trans (Only.mono (F := fun j => w.heap.size ≤ j) ⟨B3.os, B3.tape, B3.output, B3.size, fun j hj hn => B3.block j (by omega)⟩ (fun j _ e => Or.inr e))
        have HQ3 : Hid (Rq B w3 g h ((sk.bind rdS).map (·.2))) := by
          obtain ⟨l, hr, a1, a2⟩ := HQ2.out.rd
          have e1 : w3.heap[h]? = w2.heap[h]? := B3.block h hlt
          exact ⟨by rw [e1]; exact HQ2.out.hd, l, hr.low B3 hgl, a1, a2⟩
        clear hown3 hg3 B3
        go_wp2_with fail
        go_roundw
        case rel => exact ⟨k + 1, acc ++ [p], _, by omega, by go_num, H3.out, by rw [List.length_append, HAL.out]; rfl, (fun s hs => by rcases List.mem_append.1 hs with hs | hs; exact HSL.out s hs; rw [List.mem_singleton.1 hs]; exact HP1.out), HQ3.out, by rw [HON.out]; exact HEQ.out, HO3.out⟩
        case measure => simp [intOf]; omega
      · obtain rfl : k = n := by omega
        have hnn : ¬ (k : Int) < k := by omega
        have HFIN : Hid (st1.bind (rdMany k) = sk.map fun r => (acc, r)) := by
          show _ = _
          rw [← HEQ.out, Nat.sub_self]
          cases sk with
          | none => rfl
          | some r => simp [rdMany]
        have HQK := Lib.hid hqk
        clear hown hsl heq hok hqk hal
        go_wp2_with fail
        go_ret
        refine ⟨_, acc, rfl, HOW.out, by have := HAL.out; omega, HSL.out, ?_, ?_, HOK.out⟩
        · rw [HR.out, HFIN.out]
          intro q hq
          rw [Option.map_eq_some_iff] at hq
          obtain ⟨r, _, rfl⟩ := hq
          rfl
        · rw [HR.out, HFIN.out]
          cases sk with
          | none => exact HQK.out
          | some r => exact HQK.out
end Go.Proofs.YthlfahblnpijaaaDoor.Qd
