/- Proves what Parse of package clock returns, and its like of the specification. Condition: what the library lays is laid; a bound on the length of the string. -/
import Derived.Test.YthphclmdbinafaaDoorCd
namespace Go.Proofs.YthphclmdbinafaaDoor.Cp
open Go.RowKit Go.Lib Cm Cf Cu Cd

/-- The time with a text, if there is one. -/
def parseR (s : ByteArray) : Option Nat :=
  if s = neverB then some 18446744073709551615 else
    match Lib.parseUintB 64 s.data.toList with
    | .ok u => if textB u = s then some u else none
    | _ => none
theorem after_bytes {w w' : World} {t : TypeId} {s : ByteArray} (h : w' = w ∨ w' = Lib.bytesWorld w t s) : After w w' := by
  rcases h with rfl | rfl
  · exact After.refl _
  · exact Lib.bytesWorld_below _ _ _
theorem pu_ok (s : ByteArray) (hs : s.size ≤ 281474976710656) (u : Nat) (h : Lib.parseUintB 64 s.data.toList = .ok u) (w : World) :
    Calls Tryd.prog 29 #[.string s, .int .i64 10, .int .i64 64] w (valAfter w (.tuple #[.int .u64 u, .nilIface])) :=
  (Tryd.strconv_ParseUint_10_at64_ok s (by omega) u h w).mono fun _ _ hh => ⟨hh.1, after_bytes hh.2⟩
def errAfter (w : World) : Ending → World → Prop := fun e w' => ∃ (n : Nat) (t : TypeId) (N : Nat), n < 18446744073709551616 ∧ e = .returned (.tuple #[.int .u64 n, .iface t (.pointer (some ⟨N, 0, none⟩))]) ∧ After w w'
theorem pu_err (s : ByteArray) (hs : s.size ≤ 281474976710656) (h : ∀ u, Lib.parseUintB 64 s.data.toList ≠ .ok u) (w : World) (he : Env w) :
    Calls Tryd.prog 29 #[.string s, .int .i64 10, .int .i64 64] w (errAfter w) := by
  obtain ⟨tp, p, h1⟩ := he.syn
  obtain ⟨tq, q, h2⟩ := he.rng
  match hp : Lib.parseUintB 64 s.data.toList with
  | .ok u => exact absurd hp (h u)
  | .syntax =>
    refine (Tryd.strconv_ParseUint_10_at64_syntax_var s hs hp tp p w h1).mono ?_
    rintro e w' ⟨N, rfl, _, _, hb⟩
    exact ⟨0, _, N, by omega, rfl, hb⟩
  | .range =>
    refine (Tryd.strconv_ParseUint_10_at64_range_var s hs hp tq q w h2).mono ?_
    rintro e w' ⟨N, rfl, _, _, hb⟩
    exact ⟨18446744073709551615, _, N, by omega, rfl, hb⟩
theorem bound_ok {l : List UInt8} {u : Nat} (h : Lib.parseUintB 64 l = .ok u) : u < 18446744073709551616 := by
  have := Lib.parseUintB_le h
  have e : (2 : Nat) ^ 64 - 1 = 18446744073709551615 := by decide
  omega

theorem bytes_eq {a b : ByteArray} (h : a.toList = b.toList) : a = b := by
  rw [Lib.toList_data, Lib.toList_data] at h
  exact ByteArray.ext (Array.toList_inj.1 h)
theorem is_never {s : ByteArray} (h : s = neverB) : (s.toList == [110, 101, 118, 101, 114]) = true := by
  subst h; rw [Lib.toList_data]; rfl
theorem not_never {s : ByteArray} (h : ¬ s = neverB) : (s.toList == [110, 101, 118, 101, 114]) = false := by
  rw [beq_eq_false_iff_ne]
  intro e
  exact h (bytes_eq (by rw [e]; rw [Lib.toList_data]; rfl))
theorem other_str {a b : ByteArray} (h : ¬ a = b) : (a.toList == b.toList) = false := by
  rw [beq_eq_false_iff_ne]; exact fun e => h (bytes_eq e)
def okTuple (u : Nat) : Value := .tuple #[.int .u64 u, .int .i64 0]
def noTuple : Value := .tuple #[.int .u64 0, .int .i64 6]
set_option maxRecDepth 100000 in
set_option maxHeartbeats 1000000 in
theorem parse_some (s : ByteArray) (u : Nat) (hs : s.size ≤ 281474976710656) (h : parseR s = some u) (w : World) (he : Env w) :
    Calls Tryd.prog 27 #[.string s] w (valAfter w (okTuple u)) := by
  unfold parseR at h
  split at h
  · rename_i hn
    have hb := is_never hn
    clear hn
    simp only [Option.some.injEq] at h
    subst h
    go_enter Tryd.func27, Tryd.ntmps27
    go_wp2
    go_ret2
    exact ⟨rfl, After.refl _⟩
  · rename_i hn
    split at h
    · rename_i v hp
      split at h
      · rename_i ht
        simp only [Option.some.injEq] at h
        subst h
        have hv := bound_ok hp
        have HP := Lib.hid (pu_ok s hs v hp w); clear hp
        have HT := Lib.hid ht; clear ht
        have hb := not_never hn
        clear hn
        go_enter Tryd.func27, Tryd.ntmps27
        go_wp2_with fail
        refine HP.out.mono ?_
        rintro e w1 ⟨rfl, a1⟩
        have A1 := Lib.hid a1; clear a1
        go_wp2_with fail
        refine (text_any v hv _ (he.after A1.out)).mono ?_
        rintro e w2 ⟨rfl, a2⟩
        have A2 := Lib.hid (A1.out.trans a2); clear a2
        rw [HT.out]
        go_wp2_with fail
        go_ret2
        exact ⟨rfl, A2.out⟩
      · cases h
    · cases h
theorem none_never {s : ByteArray} (h : parseR s = none) : ¬ s = neverB := by
  intro e; unfold parseR at h; rw [if_pos e] at h; cases h
theorem none_text {s : ByteArray} {u : Nat} (h : parseR s = none) (hp : Lib.parseUintB 64 s.data.toList = .ok u) : ¬ textB u = s := by
  intro e; unfold parseR at h; rw [if_neg (fun e' => none_never (s := s) (by unfold parseR; exact h) e'), hp] at h
  simp [e] at h
set_option maxRecDepth 100000 in
set_option maxHeartbeats 1000000 in
theorem parse_none (s : ByteArray) (hs : s.size ≤ 281474976710656) (h : parseR s = none) (w : World) (he : Env w) :
    Calls Tryd.prog 27 #[.string s] w (valAfter w noTuple) := by
  have hb := not_never (none_never h)
  by_cases hx : ∃ u, Lib.parseUintB 64 s.data.toList = .ok u
  · obtain ⟨v, hp⟩ := hx
    have hv := bound_ok hp
    have HT := Lib.hid (other_str (none_text h hp))
    have HP := Lib.hid (pu_ok s hs v hp w); clear hp h
    obtain ⟨x, hxx⟩ : ∃ x, x = textB v := ⟨_, rfl⟩
    have HV := Lib.hid (fun W k => text_any v hv W k)
    rw [← hxx] at HT HV
    clear hxx
    have ht := HT.out
    go_enter Tryd.func27, Tryd.ntmps27
    go_wp2_with fail
    refine HP.out.mono ?_
    rintro e w1 ⟨rfl, a1⟩
    have A1 := Lib.hid a1; clear a1
    go_wp2_with fail
    refine (HV.out _ (he.after A1.out)).mono ?_
    rintro e w2 ⟨rfl, a2⟩
    have A2 := Lib.hid (A1.out.trans a2); clear a2
    go_wp2_with fail
    go_ret2
    exact ⟨rfl, A2.out⟩
  · have HP := Lib.hid (pu_err s hs (fun u e => hx ⟨u, e⟩) w he)
    clear hx h
    go_enter Tryd.func27, Tryd.ntmps27
    go_wp2_with fail
    refine HP.out.mono ?_
    rintro e w1 ⟨n, t, N, hn, rfl, a1⟩
    have A1 := Lib.hid a1; clear a1
    go_wp2_with fail
    go_ret2
    exact ⟨rfl, A1.out⟩

/-! ### the specification's -/
def rTuple : Option Nat → Value
  | some u => .tuple #[.int .u64 u, .bool true]
  | none => .tuple #[.int .u64 0, .bool false]
theorem ret_r {s : ByteArray} {o : Option Nat} (h : parseR s = o) : Ending.returned (rTuple o) = .returned (rTuple (parseR s)) := by rw [h]
theorem no_ok {s : ByteArray} (hn : ¬ s = neverB) (h : ∀ u, Lib.parseUintB 64 s.data.toList ≠ .ok u) : parseR s = none := by
  unfold parseR; rw [if_neg hn]
  split
  · rename_i u hu; exact absurd hu (h u)
  · rfl
theorem ok_at {s : ByteArray} {u : Nat} (hn : ¬ s = neverB) (h : Lib.parseUintB 64 s.data.toList = .ok u) : parseR s = if textB u = s then some u else none := by
  unfold parseR; rw [if_neg hn, h]
theorem num_syntax {acc : Nat} {c : UInt8} {r : List UInt8} (h : c.toNat < 48 ∨ 57 < c.toNat) : Lib.parseUintM 18446744073709551615 acc (c :: r) = .syntax := by
  rw [Lib.parseUintM, if_neg (by omega)]
theorem num_range {acc : Nat} {c : UInt8} {r : List UInt8} (h1 : 48 ≤ c.toNat) (h2 : c.toNat ≤ 57) (h : 18446744073709551615 < acc * 10 + (c.toNat - 48)) : Lib.parseUintM 18446744073709551615 acc (c :: r) = .range := by
  rw [Lib.parseUintM, if_pos ⟨h1, h2⟩]
  split
  · rfl
  · first | rfl | rw [if_pos h]
theorem num_on {acc : Nat} {c : UInt8} {r : List UInt8} (h1 : 48 ≤ c.toNat) (h2 : c.toNat ≤ 57) (h : acc * 10 + (c.toNat - 48) ≤ 18446744073709551615) : Lib.parseUintM 18446744073709551615 acc (c :: r) = Lib.parseUintM 18446744073709551615 (acc * 10 + (c.toNat - 48)) r := by
  rw [Lib.parseUintM, if_pos ⟨h1, h2⟩, if_neg (by omega), if_neg (by omega)]
theorem dataK (s : ByteArray) (k : Nat) (h : k < s.size) : s.data.toList.drop k = s[k] :: s.data.toList.drop (k + 1) := by
  rw [List.drop_eq_getElem_cons (by simpa using h)]; rfl
theorem idx_str (s : ByteArray) (k : Nat) (h : k < s.size) (w : World) : (Instr.index 9 (.string s) (.int .i64 k)).run Tryd.prog w = .ok (.int .u8 s[k].toNat) w := by
  rw [run_index_string w 9 s .i64 k Tryd.underlying9]
  simp [h]
theorem start_num {s : ByteArray} (h : ¬ s.size = 0) : Lib.parseUintB 64 s.data.toList = Lib.parseUintM 18446744073709551615 0 s.data.toList := by
  unfold Lib.parseUintB
  rw [if_neg (by intro e; apply h; rw [← ByteArray.size_data, ← Array.length_toList, e]; rfl)]
theorem wrap8 (n : Int) (h0 : 0 ≤ n) (h1 : n ≤ 255) : IntKind.u8.wrap n = n := by
  rw [show IntKind.u8.wrap n = n % 256 by simp [IntKind.wrap, IntKind.bits, IntKind.signed]]; omega

set_option maxRecDepth 100000 in
set_option maxHeartbeats 2000000 in
theorem rparse_any (s : ByteArray) (hs : s.size ≤ 281474976710656) (w : World) :
    Calls Tryd.prog 19 #[.string s] w fun e w' => e = .returned (rTuple (parseR s)) ∧ w = w' := by
  by_cases hn : s = neverB
  · have hb := is_never hn
    have HR := Lib.hid (show parseR s = some 18446744073709551615 by unfold parseR; rw [if_pos hn])
    clear hn
    go_enter Tryd.func19, Tryd.ntmps19
    go_wp2
    go_ret2
    exact ⟨ret_r HR.out, rfl⟩
  · have hb := not_never hn
    have HN := Lib.hid hn; clear hn
    by_cases h0 : s.size = 0
    · have HR := Lib.hid (no_ok HN.out (fun u e => by
        unfold Lib.parseUintB at e
        rw [if_pos (by apply List.eq_nil_of_length_eq_zero; rw [Array.length_toList, ByteArray.size_data]; exact h0)] at e
        cases e))
      have hz : ((s.size : Int) == 0) = true := by rw [beq_iff_eq]; omega
      go_enter Tryd.func19, Tryd.ntmps19
      go_wp2
      go_ret2
      exact ⟨ret_r HR.out, rfl⟩
    · by_cases h20 : 20 < s.size
      · have HR : Hid (parseR s = none) := Lib.hid (by
          match hp : Lib.parseUintB 64 s.data.toList with
          | .ok u =>
            rw [ok_at HN.out hp, if_neg]
            intro e
            have hu := bound_ok hp
            have hl : (textB u).size ≤ 20 := by
              unfold textB
              split
              · decide
              · show (Lib.decDigits u).toArray.size ≤ 20
                rw [List.size_toArray, Lib.decDigits_length]
                exact Lib.nDigits_le20 u hu
            rw [e] at hl
            omega
          | .syntax => exact no_ok HN.out (by rw [hp]; intro u e; cases e)
          | .range => exact no_ok HN.out (by rw [hp]; intro u e; cases e))
        have hz : ((s.size : Int) == 0) = false := by rw [beq_eq_false_iff_ne]; omega
        have hg : decide (20 < (s.size : Int)) = true := by simp; omega
        go_enter Tryd.func19, Tryd.ntmps19
        go_wp2
        go_ret2
        exact ⟨ret_r HR.out, rfl⟩
      · have hz : ((s.size : Int) == 0) = false := by rw [beq_eq_false_iff_ne]; omega
        have hg : decide (20 < (s.size : Int)) = false := by simp; omega
        have HS := Lib.hid (start_num h0)
        go_enter Tryd.func19, Tryd.ntmps19
        go_wp2
        go_loop [4, 5, 6] (fun vn vi _ => ∃ k acc : Nat, vn = .int .u64 acc ∧ vi = .int .i64 k ∧ k ≤ s.size ∧ acc ≤ 18446744073709551615 ∧ Hid (Lib.parseUintB 64 s.data.toList = Lib.parseUintM 18446744073709551615 acc (s.data.toList.drop k))) (fun _ vi _ => s.size - (RowKit.intOf vi).toNat)
        case atStart => exact ⟨0, 0, rfl, rfl, by omega, by omega, HS.out⟩
        case round =>
          obtain ⟨k, acc, rfl, rfl, hk, hacc, HI⟩ := hrel
          by_cases hlt : k < s.size
          · have hi := idx_str s k hlt
            have HK := Lib.hid (dataK s k hlt)
            obtain ⟨c, hc⟩ : ∃ c, c = s[k] := ⟨_, rfl⟩
            rw [← hc] at hi HK
            clear hc
            have c1 := c.toNat_lt
            by_cases hA : c.toNat < 48
            · have g1 : decide ((c.toNat : Int) < 48) = true := by simp; omega
              have HR := Lib.hid (no_ok HN.out (fun u e => by rw [HI.out, HK.out, num_syntax (.inl hA)] at e; cases e))
              go_wp2
              go_ret2
              exact ⟨ret_r HR.out, rfl⟩
            · have g1 : decide ((c.toNat : Int) < 48) = false := by simp; omega
              by_cases hB : 57 < c.toNat
              · have g2 : decide (57 < (c.toNat : Int)) = true := by simp; omega
                have HR := Lib.hid (no_ok HN.out (fun u e => by rw [HI.out, HK.out, num_syntax (.inr hB)] at e; cases e))
                go_wp2
                go_ret2
                exact ⟨ret_r HR.out, rfl⟩
              · have g2 : decide (57 < (c.toNat : Int)) = false := by simp; omega
                obtain ⟨d, hd⟩ : ∃ d : Nat, d = c.toNat - 48 := ⟨_, rfl⟩
                have d9 : d ≤ 9 := by omega
                have e1 : IntKind.u8.wrap ((c.toNat : Int) - 48) = d := by rw [wrap8 _ (by omega) (by omega)]; omega
                have e2 : IntKind.u64.wrap (d : Int) = d := wrap64 _ (by omega) (by omega)
                have e3 : IntKind.u64.wrap (18446744073709551615 - (d : Int)) = 18446744073709551615 - d := wrap64 _ (by omega) (by omega)
                by_cases hC : 18446744073709551615 < acc * 10 + d
                · have HR := Lib.hid (no_ok HN.out (fun u e => by rw [HI.out, HK.out, num_range (by omega) (by omega) (by rw [← hd]; exact hC)] at e; cases e))
                  have g3 : decide ((18446744073709551615 - (d : Int)) / 10 < acc) = true := by simp; omega
                  go_wp2
                  go_ret2
                  exact ⟨ret_r HR.out, rfl⟩
                · have HI' := Lib.hid (HI.out.trans (by rw [HK.out, num_on (by omega) (by omega) (by rw [← hd]; omega), ← hd]))
                  have g3 : decide ((18446744073709551615 - (d : Int)) / 10 < acc) = false := by simp; omega
                  have e4 : IntKind.u64.wrap (10 * (acc : Int)) = 10 * acc := wrap64 _ (by omega) (by omega)
                  have e5 : IntKind.u64.wrap (10 * (acc : Int) + d) = ((acc * 10 + d : Nat) : Int) := by rw [wrap64 _ (by omega) (by omega)]; omega
                  go_wp2
                  go_round
                  case rel => exact ⟨k + 1, acc * 10 + d, by go_num, by go_num, by omega, by omega, HI'.out⟩
                  case measure => simp [RowKit.intOf]; omega
          · obtain rfl : k = s.size := by omega
            have hd : s.data.toList.drop s.size = [] := by rw [List.drop_eq_nil_iff, Array.length_toList, ByteArray.size_data]; exact Nat.le_refl _
            have HP := Lib.hid (show Lib.parseUintB 64 s.data.toList = .ok acc by rw [HI.out, hd]; rfl)
            clear hd
            go_wp2_with fail
            refine (rtext_any acc (by omega) _).mono ?_
            rintro e w1 ⟨rfl, rfl⟩
            obtain ⟨x, hx⟩ : ∃ x, x = textB acc := ⟨_, rfl⟩
            rw [← hx]
            by_cases hq : x = s
            · subst hq
              have HR := Lib.hid (show parseR x = some acc by rw [ok_at HN.out HP.out, if_pos hx.symm])
              clear hx
              go_wp2_with fail
              go_ret2
              exact ⟨ret_r HR.out, rfl⟩
            · have HR := Lib.hid (show parseR s = none by rw [ok_at HN.out HP.out, if_neg (by rw [← hx]; exact hq)])
              have hq' := other_str hq
              clear hx hq
              go_wp2_with fail
              go_ret2
              exact ⟨ret_r HR.out, rfl⟩
end Go.Proofs.YthphclmdbinafaaDoor.Cp
