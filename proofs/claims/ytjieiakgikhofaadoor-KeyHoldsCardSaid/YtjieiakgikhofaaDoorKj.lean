/- Proves what Join returns, and the specification's. Conditions: the library's variable is laid; lengths of at most 600 bytes each, 1,000,000 strings. -/
import Derived.Test.YtjieiakgikhofaaDoorKg
namespace Go.Proofs.YtjieiakgikhofaaDoor.Kj
open Go.RowKit Km Kt Kv Kl Ap Kx Ky Kr Ks Kf Kg

theorem take_ne {l : List Bs} {k : Nat} (hk : 0 < k) (h : k < l.length) : l.take k ≠ [] := by
  intro e; have := congrArg List.length e; rw [List.length_take] at this; simp only [List.length_nil] at this; omega
def sepN (k : Nat) : Nat := if 0 < k then 1 else 0
theorem join_take_len {l : List Bs} {k : Nat} (h : k < l.length) : (joinL (l.take (k + 1))).length = (joinL (l.take k)).length + sepN k + l[k].length := by
  rw [List.take_succ_eq_append_getElem h]
  unfold sepN
  by_cases hk : 0 < k
  · rw [if_pos hk, joinL_snoc _ _ (take_ne hk h)]
    simp; omega
  · obtain rfl : k = 0 := by omega
    simp [joinL_one, joinL_nil]
theorem join_take_next {l : List Bs} {k : Nat} (h : k < l.length) (hk : 0 < k) : joinL (l.take (k + 1)) = joinL (l.take k) ++ [47] ++ l[k] := by
  rw [List.take_succ_eq_append_getElem h, joinL_snoc _ _ (take_ne hk h)]
theorem join_take_first {l : List Bs} (h : 0 < l.length) : joinL (l.take (0 + 1)) = l[0] := by
  rw [List.take_succ_eq_append_getElem h]; simp [joinL_one]
theorem join_mono (l : List Bs) : ∀ k j, k ≤ j → j ≤ l.length → (joinL (l.take k)).length ≤ (joinL (l.take j)).length := by
  intro k j hkj
  induction j with
  | zero => intro _; rw [show k = 0 from by omega]; exact Nat.le_refl _
  | succ j ih =>
    intro hj
    rcases Nat.lt_or_ge k (j + 1) with h | h
    · have := ih (by omega) (by omega)
      have := join_take_len (l := l) (k := j) (by omega)
      omega
    · rw [show k = j + 1 from by omega]; exact Nat.le_refl _
theorem join_mono' (l : List Bs) (k : Nat) (h : k ≤ l.length) : (joinL (l.take k)).length ≤ (joinL l).length := by
  have := join_mono l k l.length h (Nat.le_refl _)
  rwa [List.take_length] at this
theorem slash_mem {l : List Bs} (h : noSlash l = true) : ∀ x ∈ l, (47 : UInt8) ∉ x := by
  intro x hx
  unfold noSlash at h
  rw [List.all_eq_true] at h
  simpa using h x hx
theorem noSlash_next {l : List Bs} {k : Nat} (h : k < l.length) (hs : noSlash (l.take k) = true) (hc : (47 : UInt8) ∉ l[k]) : noSlash (l.take (k + 1)) = true := by
  rw [List.take_succ_eq_append_getElem h]
  unfold noSlash at *
  rw [List.all_append, hs]; simpa using hc
theorem noSlash_false {l : List Bs} {k : Nat} (h : k < l.length) (hc : (47 : UInt8) ∈ l[k]) : noSlash l = false := by
  rw [Bool.eq_false_iff]; intro e; exact slash_mem e _ (List.getElem_mem h) hc
theorem fit_false_long {l : List Bs} {k : Nat} (h : k ≤ l.length) (hl : 250 < (joinL (l.take k)).length) : fitL l = false := by
  have := join_mono' l k h
  unfold fitL
  rw [show decide ((joinL l).length ≤ 250) = false from by simp; omega]; simp
theorem fit_false_slash {l : List Bs} {k : Nat} (h : k < l.length) (hc : (47 : UInt8) ∈ l[k]) : fitL l = false := by
  unfold fitL; rw [noSlash_false h hc]; rfl
theorem fit_true {l : List Bs} (h : noSlash l = true) (hl : (joinL l).length ≤ 250) : fitL l = true := by
  unfold fitL; rw [h]; simpa using hl
theorem contains_yes {x : Bs} (h : (47 : UInt8) ∈ x) : Lib.contains (⟨x.toArray⟩ : ByteArray).data.toList (⟨#[47]⟩ : ByteArray).data.toList = true := by
  show Lib.contains x [47] = true
  rw [contains_slash]; simpa using h
theorem contains_no {x : Bs} (h : (47 : UInt8) ∉ x) : Lib.contains (⟨x.toArray⟩ : ByteArray).data.toList (⟨#[47]⟩ : ByteArray).data.toList = false := by
  show Lib.contains x [47] = false
  rw [contains_slash]; simpa using h
theorem has_slash (x : Bs) (m : Int) (w : World) (hx : x.length ≤ 1000000) (hm : w.cell? ⟨1, 0, none⟩ = some (.int .i64 m)) (b : Bool) (h : decide ((47 : UInt8) ∈ x) = b) :
    Calls Tryd.prog 48 #[.string ⟨x.toArray⟩, .string ⟨#[47]⟩] w fun e w' => e = .returned (.bool b) ∧ w = w' := by
  have hs : (⟨x.toArray⟩ : ByteArray).size < 4294967281 := by show x.toArray.size < _; simp; omega
  refine (Tryd.strings_Contains ⟨x.toArray⟩ ⟨#[47]⟩ m w hs hm).mono fun e w' hh => ⟨?_, hh.2.symm⟩
  rw [hh.1, ← h, ← contains_slash x]

set_option maxRecDepth 100000 in
set_option maxHeartbeats 400000 in
theorem fit_any (A : Option Addr) (c : Nat) (l : List Bs) (w : World) (he : Env w) (hA : Rd w A l) (hl : l.length ≤ 1000000) (hx : ∀ x ∈ l, x.length ≤ 1000000) :
    Calls Tryd.prog 39 #[.slice A l.length c] w fun e w' => e = .returned (.bool (fitL l)) ∧ w = w' := by
  obtain ⟨m, hm⟩ := he.mlen
  have HM := Lib.hid hm; clear hm
  have HX := Lib.hid hx; clear hx
  go_enter Tryd.func39, Tryd.ntmps39
  go_wp2_with fail
  go_loop [3, 4, 5, 8] (fun r _ _ i => ∃ k : Nat, k ≤ l.length ∧ i = .int .i64 k ∧ r = .int .i64 ((250 : Int) - (joinL (l.take k)).length) ∧ (joinL (l.take k)).length ≤ 250 ∧ noSlash (l.take k) = true) (fun _ _ _ i => l.length - (intOf i).toNat)
  case atStart => exact ⟨0, Nat.zero_le _, rfl, rfl, by simp [joinL_nil], rfl⟩
  case round =>
    obtain ⟨k, hk, rfl, rfl, hj, hs⟩ := hrel
    have HS := Lib.hid hs; clear hs
    by_cases hlt : k < l.length
    · obtain ⟨b1, o1, rfl, hb1, hc1⟩ := hA.at_ hlt
      have hxl := HX.out _ (List.getElem_mem hlt)
      have HT := Lib.hid (join_take_len hlt)
      have i1 : (k : Int) < l.length := by omega
      obtain ⟨j, hjj⟩ : ∃ j, j = (joinL (l.take k)).length := ⟨_, rfl⟩
      rw [← hjj] at HT hj
      obtain ⟨x, hxx⟩ : ∃ x, x = l[k] := ⟨_, rfl⟩
      rw [← hxx] at HT hc1 hxl
      have HJ := Lib.hid hjj
      have HXX := Lib.hid hxx
      rw [← hjj]
      clear hjj hxx
      by_cases h0 : 0 < k
      · have hb0 : (0 : Int) < k := by omega
        have hse : sepN k = 1 := if_pos h0
        by_cases hr : j + 1 + x.length ≤ 250
        · have hd : decide ((250 : Int) - j - 1 - x.length < 0) = false := by simp; omega
          by_cases hc : (47 : UInt8) ∈ x
          · have HC := Lib.hid (has_slash x m w hxl HM.out true (by simpa using hc))
            have HF := Lib.hid (fit_false_slash hlt (by rw [← HXX.out]; exact hc))
            clear hc
            go_wp2_with fail
            refine HC.out.mono ?_
            rintro e w1 ⟨rfl, rfl⟩
            go_wp2_with fail
            go_ret
            exact ⟨ret_b (by rw [HF.out]), rfl⟩
          · have HC := Lib.hid (has_slash x m w hxl HM.out false (by simpa using hc))
            have HF := Lib.hid (noSlash_next hlt HS.out (by rw [← HXX.out]; exact hc))
            clear hc
            go_wp2_with fail
            refine HC.out.mono ?_
            rintro e w1 ⟨rfl, rfl⟩
            go_wp2_with fail
            go_round
            case rel => exact ⟨k + 1, by omega, by go_num, by rw [HT.out, hse]; go_num, by rw [HT.out, hse]; omega, HF.out⟩
            case measure => simp [intOf]; omega
        · have hd : decide ((250 : Int) - j - 1 - x.length < 0) = true := by simp; omega
          have HF := Lib.hid (fit_false_long (l := l) (k := k + 1) (by omega) (by rw [HT.out, hse]; omega))
          go_wp2_with fail
          go_ret
          exact ⟨ret_b (by rw [HF.out]), rfl⟩
      · have hb0 : ¬ (0 : Int) < k := by omega
        have hse : sepN k = 0 := if_neg h0
        by_cases hr : j + x.length ≤ 250
        · have hd : decide ((250 : Int) - j - x.length < 0) = false := by simp; omega
          by_cases hc : (47 : UInt8) ∈ x
          · have HC := Lib.hid (has_slash x m w hxl HM.out true (by simpa using hc))
            have HF := Lib.hid (fit_false_slash hlt (by rw [← HXX.out]; exact hc))
            clear hc
            go_wp2_with fail
            refine HC.out.mono ?_
            rintro e w1 ⟨rfl, rfl⟩
            go_wp2_with fail
            go_ret
            exact ⟨ret_b (by rw [HF.out]), rfl⟩
          · have HC := Lib.hid (has_slash x m w hxl HM.out false (by simpa using hc))
            have HF := Lib.hid (noSlash_next hlt HS.out (by rw [← HXX.out]; exact hc))
            clear hc
            go_wp2_with fail
            refine HC.out.mono ?_
            rintro e w1 ⟨rfl, rfl⟩
            go_wp2_with fail
            go_round
            case rel => exact ⟨k + 1, by omega, by go_num, by rw [HT.out, hse]; go_num, by rw [HT.out, hse]; omega, HF.out⟩
            case measure => simp [intOf]; omega
        · have hd : decide ((250 : Int) - j - x.length < 0) = true := by simp; omega
          have HF := Lib.hid (fit_false_long (l := l) (k := k + 1) (by omega) (by rw [HT.out, hse]; omega))
          go_wp2_with fail
          go_ret
          exact ⟨ret_b (by rw [HF.out]), rfl⟩
    · obtain rfl : k = l.length := by omega
      have hnn : ¬ (l.length : Int) < l.length := by omega
      go_wp2_with fail
      go_ret
      have e := HS.out
      rw [List.take_length] at e hj
      exact ⟨ret_b (by rw [fit_true e hj]), rfl⟩

def joinV (l : List Bs) : Bs := if joinOk l then joinL l else []
def joinE (l : List Bs) : Int := if joinOk l then 0 else 2
theorem join_yes {l : List Bs} (h : joinOk l = true) : joinV l = joinL l ∧ joinE l = 0 := by unfold joinV joinE; rw [if_pos h, if_pos h]; exact ⟨rfl, rfl⟩
theorem join_no {l : List Bs} (h : joinOk l = false) : joinV l = [] ∧ joinE l = 2 := by unfold joinV joinE; rw [h]; exact ⟨rfl, rfl⟩
def joinPost (w : World) (l : List Bs) : Ending → World → Prop := fun e w' => e = .returned (.tuple #[strV (joinV l), .int .i64 (joinE l)]) ∧ Below w.heap.size w w'
theorem ret_si {x y : Bs} {a b : Int} (h : x = y) (k : a = b) : Ending.returned (.tuple #[strV x, .int .i64 a]) = .returned (.tuple #[strV y, .int .i64 b]) := by rw [h, k]
theorem lib_join (A : Option Addr) (c : Nat) (l : List Bs) (w : World) (hA : Rd w A l) (hc : l.length ≤ c) (hl : l.length ≤ 1000000) (hj : (joinL l).length ≤ 1000000) :
    Calls Tryd.prog 40 #[.slice A l.length c, .string ⟨#[47]⟩] w fun e w' => e = .returned (strV (joinL l)) ∧ Below w.heap.size w w' := by
  by_cases h0 : 0 < l.length
  · obtain ⟨b, o, rfl, hb, hcell⟩ := hA h0
    have hm : (l.map fun x => (⟨x.toArray⟩ : ByteArray)).map (·.data.toList) = l := by rw [List.map_map]; exact List.map_id' l
    have := Tryd.strings_Join b o c (l.map fun x => ⟨x.toArray⟩) ⟨#[47]⟩ w (fun j x hx => by
      rw [List.getElem?_map] at hx
      cases hj : l[j]? with
      | none => rw [hj] at hx; cases hx
      | some y =>
        rw [hj] at hx
        obtain ⟨h1, h2⟩ := List.getElem?_eq_some_iff.1 hj
        rw [hcell j h1, h2]
        simp at hx
        rw [hx]) hb (by simp; omega) (by simpa using hc) (by rw [hm]; show (joinL l).length ≤ _; omega)
    rw [hm, List.length_map] at this
    exact this
  · obtain rfl : l = [] := List.eq_nil_of_length_eq_zero (by omega)
    exact (Tryd.strings_Join_none A c ⟨#[47]⟩ w).mono fun e w' hh => ⟨hh.1, by rw [hh.2]; exact Below.refl _ _⟩

set_option maxRecDepth 100000 in
set_option maxHeartbeats 400000 in
theorem join_any (A : Option Addr) (c : Nat) (l : List Bs) (w : World) (he : Env w) (hA : Rd w A l) (hc : l.length ≤ c) (hl : l.length ≤ 1000000) (hx : ∀ x ∈ l, x.length ≤ 1000000) :
    Calls Tryd.prog 26 #[.slice A l.length c] w (joinPost w l) := by
  have HF := Lib.hid (fit_any A c l w he hA hl hx)
  by_cases hf : fitL l = true
  · have hj : (joinL l).length ≤ 250 := by
      unfold fitL at hf; rw [Bool.and_eq_true] at hf; simpa using hf.2
    have HJ := Lib.hid (lib_join A c l w hA hc hl (by omega))
    have HFF := Lib.hid hf
    have hjo : joinOk l = validL (joinL l) := by rw [fit_of_ok, hf]; rfl
    have HV := Lib.hid (fun W => valid_any ⟨(joinL l).toArray⟩ W (by unfold maxLen; show (joinL l).toArray.size ≤ _; simp; omega))
    have hvs : validS ⟨(joinL l).toArray⟩ = validL (joinL l) := rfl
    by_cases hv : validL (joinL l) = true
    · have HR := Lib.hid (join_yes (hjo.trans hv))
      have HVV := Lib.hid (hvs.trans hv)
      clear hf hjo hvs hv hx
      go_enter Tryd.func26, Tryd.ntmps26
      go_wp2_with fail
      refine HF.out.mono ?_
      rintro e w1 ⟨rfl, rfl⟩
      rw [HFF.out]
      go_wp2_with fail
      refine HJ.out.mono ?_
      rintro e w1 ⟨rfl, hb⟩
      have HB := Lib.hid hb; clear hb
      go_wp2_with fail
      refine (HV.out _).mono ?_
      rintro e w2 ⟨rfl, rfl⟩
      rw [HVV.out]
      go_wp2_with fail
      go_ret2
      exact ⟨ret_si HR.out.1.symm HR.out.2.symm, HB.out⟩
    · have hv' : validL (joinL l) = false := by simpa using hv
      have HR := Lib.hid (join_no (hjo.trans hv'))
      have HVV := Lib.hid (hvs.trans hv')
      clear hf hjo hvs hv hv' hx
      go_enter Tryd.func26, Tryd.ntmps26
      go_wp2_with fail
      refine HF.out.mono ?_
      rintro e w1 ⟨rfl, rfl⟩
      rw [HFF.out]
      go_wp2_with fail
      refine HJ.out.mono ?_
      rintro e w1 ⟨rfl, hb⟩
      have HB := Lib.hid hb; clear hb
      go_wp2_with fail
      refine (HV.out _).mono ?_
      rintro e w2 ⟨rfl, rfl⟩
      rw [HVV.out]
      go_wp2_with fail
      go_ret2
      exact ⟨ret_si HR.out.1.symm HR.out.2.symm, HB.out⟩
  · have hf' : fitL l = false := by simpa using hf
    have HR := Lib.hid (join_no (l := l) (by rw [fit_of_ok, hf']; rfl))
    have HFF := Lib.hid hf'
    clear hf hf' hx
    go_enter Tryd.func26, Tryd.ntmps26
    go_wp2_with fail
    refine HF.out.mono ?_
    rintro e w1 ⟨rfl, rfl⟩
    rw [HFF.out]
    go_wp2_with fail
    go_ret2
    exact ⟨ret_si HR.out.1.symm HR.out.2.symm, Below.refl _ _⟩

def rjoinPost (w : World) (l : List Bs) : Ending → World → Prop := fun e w' => e = .returned (.tuple #[strV (joinV l), .int .i64 (joinE l)]) ∧ Below w.heap.size w w'
set_option maxRecDepth 100000 in
set_option maxHeartbeats 1000000 in
theorem rjoin_any (A : Option Addr) (c : Nat) (l : List Bs) (w : World) (hA : Rd w A l) (hl : l.length ≤ 1000) (hx : ∀ x ∈ l, x.length ≤ 600) (hj : (joinL l).length ≤ 10000) :
    Calls Tryd.prog 27 #[.slice A l.length c] w (rjoinPost w l) := by
  have HX := Lib.hid hx; clear hx
  go_enter Tryd.func27, Tryd.ntmps27
  go_wp2_with fail
  go_loopw [4, 5] (fun v i wr => ∃ (k : Nat) (o : ByteArray), k ≤ l.length ∧ i = .int .i64 k ∧ v = .string o ∧ o.data.toList = joinL (l.take k) ∧ noSlash (l.take k) = true ∧ Below w.heap.size w wr) (fun _ i _ => l.length - (intOf i).toNat)
  case atStart => exact ⟨0, ⟨#[]⟩, Nat.zero_le _, rfl, rfl, rfl, rfl, Below.refl _ _⟩
  case round =>
    obtain ⟨k, o, hk, rfl, rfl, ho, hs, hbel⟩ := hrel
    have hoz : o.size ≤ 10000 := by have := join_mono' l k hk; rw [← len_eq o, ho]; omega
    have HO := Lib.hid ho; clear ho
    have HS := Lib.hid hs; clear hs
    have hsz := hbel.size
    have hRd := hA.below hbel (Nat.le_refl _)
    have HB := Lib.hid hbel; clear hbel
    by_cases hlt : k < l.length
    · obtain ⟨b1, o1, rfl, hb1, hc1⟩ := hRd.at_ hlt
      obtain ⟨_, _, e1, hb0, hc0⟩ := hA.at_ hlt
      simp only [Option.some.injEq, Addr.mk.injEq, and_true] at e1
      obtain ⟨rfl, rfl⟩ := e1
      have hxl := HX.out _ (List.getElem_mem hlt)
      have i1 : (k : Int) < l.length := by omega
      obtain ⟨x, hxx⟩ : ∃ x, x = l[k] := ⟨_, rfl⟩
      rw [← hxx] at hc1 hxl hc0
      have HXX := Lib.hid hxx; clear hxx
      have HSeg := Lib.hid (rsegments_any ⟨x.toArray⟩ wr (by show x.toArray.size ≤ _; simpa using hxl))
      by_cases hc : (47 : UInt8) ∈ x
      · have HR := Lib.hid (join_no (l := l) (by unfold joinOk; rw [noSlash_false hlt (by rw [← HXX.out]; exact hc)]; rfl))
        have hn1 : (((segs x).length : Int) != 1) = true := by
          rw [bne_iff_ne]; intro e; exact (segs_one x).1 (by omega) hc
        clear hc
        go_wp2_with fail
        refine HSeg.out.mono ?_
        rintro e w1 ⟨v, rfl, hown, hb⟩
        have hl1 := fun W => len_own 26 3 Tryd.underlying26 (own_row hown) W
        have HB2 := Lib.hid (HB.out.trans (hb.mono hsz)); clear hb hown hsz
        go_wp2_with fail
        go_ret2
        exact ⟨ret_si HR.out.1.symm HR.out.2.symm, HB2.out⟩
      · have HF := Lib.hid (noSlash_next hlt HS.out (by rw [← HXX.out]; exact hc))
        have hn1 : (((segs x).length : Int) != 1) = false := by
          have := (segs_one x).2 hc
          rw [this]; rfl
        clear hc
        by_cases h0 : 0 < k
        · have hb00 : (0 : Int) < k := by omega
          have HN := Lib.hid (join_take_next hlt h0)
          go_wp2_with fail
          refine HSeg.out.mono ?_
          rintro e w1 ⟨v, rfl, hown, hb⟩
          have hl1 := fun W => len_own 26 3 Tryd.underlying26 (own_row hown) W
          have hc2 : w1.cell? ⟨b1, o1 + k, none⟩ = some (.string ⟨x.toArray⟩) := by rw [hb.cell hb1]; exact hc1
          have HB2 := Lib.hid (HB.out.trans (hb.mono hsz)); clear hb hown hsz hc1 hc0
          go_wp2_with fail
          go_roundw
          case rel => exact ⟨k + 1, _, by omega, by go_num, rfl, by rw [app_data, app_data, HO.out, HN.out, ← HXX.out], HF.out, HB2.out⟩
          case measure => simp [intOf]; omega
        · have hb00 : ¬ (0 : Int) < k := by omega
          obtain rfl : k = 0 := by omega
          have HN := Lib.hid (join_take_first hlt)
          have hc4 : wr.cell? ⟨b1, o1, none⟩ = some (.string ⟨x.toArray⟩) := hc1
          have HC1 := Lib.hid hc1; clear hc1
          go_wp2_with fail
          refine HSeg.out.mono ?_
          rintro e w1 ⟨v, rfl, hown, hb⟩
          have hl1 := fun W => len_own 26 3 Tryd.underlying26 (own_row hown) W
          have hc2 : w1.cell? ⟨b1, o1 + 0, none⟩ = some (.string ⟨x.toArray⟩) := by rw [hb.cell hb1]; exact HC1.out
          have hc3 : w1.cell? ⟨b1, o1, none⟩ = some (.string ⟨x.toArray⟩) := hc2
          have HB2 := Lib.hid (HB.out.trans (hb.mono hsz)); clear hb hown hsz hc0 hc2 hc4
          go_wp2_with fail
          go_roundw
          case rel => exact ⟨1, _, by omega, by go_num, rfl, by rw [app_data, HO.out, HN.out, ← HXX.out]; rfl, HF.out, HB2.out⟩
          case measure => simp [intOf]; omega
    · obtain rfl : k = l.length := by omega
      have hnn : ¬ (l.length : Int) < l.length := by omega
      have e1 := HO.out
      have e2 := HS.out
      rw [List.take_length] at e1 e2
      by_cases h0 : l.length = 0
      · obtain rfl : l = [] := List.eq_nil_of_length_eq_zero h0
        have HR := Lib.hid (join_no (l := []) rfl)
        clear e1 e2 h0 hlt
        go_wp2_with fail
        go_ret2
        exact ⟨ret_si HR.out.1.symm HR.out.2.symm, HB.out⟩
      · have hb0 : ((l.length : Int) == 0) = false := by rw [beq_eq_false_iff_ne]; omega
        have HV := Lib.hid (fun W => rvalid_any o W (by unfold maxLen; omega))
        have hvs : validS o = validL (joinL l) := by unfold validS; rw [e1]
        have hjo : joinOk l = validL (joinL l) := by unfold joinOk; rw [e2]; rfl
        have E1 := Lib.hid e1
        by_cases hv : validL (joinL l) = true
        · have HR := Lib.hid (join_yes (hjo.trans hv))
          have HVV := Lib.hid (hvs.trans hv)
          clear e1 e2 hvs hjo hv h0 hlt
          go_wp2_with fail
          refine (HV.out _).mono ?_
          rintro e w2 ⟨rfl, rfl⟩
          rw [HVV.out]
          go_wp2_with fail
          go_ret2
          exact ⟨by rw [HR.out.1, HR.out.2, ← E1.out, ← str_of (o := o) rfl]; rfl, HB.out⟩
        · have hv' : validL (joinL l) = false := by simpa using hv
          have HR := Lib.hid (join_no (hjo.trans hv'))
          have HVV := Lib.hid (hvs.trans hv')
          clear e1 e2 hvs hjo hv hv' h0 hlt
          go_wp2_with fail
          refine (HV.out _).mono ?_
          rintro e w2 ⟨rfl, rfl⟩
          rw [HVV.out]
          go_wp2_with fail
          go_ret2
          exact ⟨ret_si HR.out.1.symm HR.out.2.symm, HB.out⟩
end Go.Proofs.YtjieiakgikhofaaDoor.Kj
