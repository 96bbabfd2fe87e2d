/- Proves what the specification's Text and Parse return, over the translated program: the same as package key's. Conditions: lengths below the form's own bound. -/
import Derived.Test.YtjieiakgikhofaaDoorKy
namespace Go.Proofs.YtjieiakgikhofaaDoor.Kr
open Go.RowKit Km Kt Kv Kl Ap Kx Ky

def rtextPost (w : World) (s : ByteArray) : Ending → World → Prop := fun e w' => e = .returned (strV (textL s.data.toList)) ∧ ∃ n, w' = w.drewN n
theorem app_data (a b : ByteArray) : (a ++ b).data.toList = a.data.toList ++ b.data.toList := by
  simp [ByteArray.data_append]
theorem one_data (s : ByteArray) (k : Nat) (h : k < s.size) : (s.extract k (k + 1)).data.toList = [s[k]] := by
  rw [Lib.extract_data, dataK s k h, show k + 1 - k = 1 from by omega]; rfl
theorem dig_take (k : Nat) (h : k < 16) : List.take 1 (List.drop k [48, 49, 50, 51, 52, 53, 54, 55, 56, 57, 97, 98, 99, 100, 101, 102]) = [digU k] := by
  have : ∀ j : Fin 16, List.take 1 (List.drop j.val [48, 49, 50, 51, 52, 53, 54, 55, 56, 57, 97, 98, 99, 100, 101, 102]) = [digU j.val] := by decide +kernel
  exact this ⟨k, h⟩
theorem str_of {o : ByteArray} {l : List UInt8} (h : o.data.toList = l) : Value.string o = strV l := by
  unfold strV; rw [← h]

set_option maxRecDepth 100000 in
set_option maxHeartbeats 400000 in
theorem rtext_any (s : ByteArray) (w : World) (hs : s.size ≤ 1000) :
    Calls Tryd.prog 33 #[.string s] w (rtextPost w s) := by
  by_cases h0 : s.size = 0
  · obtain rfl : s = ⟨#[]⟩ := by
      obtain ⟨⟨l⟩⟩ := s
      have : l = [] := List.eq_nil_of_length_eq_zero (show l.length = 0 from h0)
      rw [this]
    go_enter Tryd.func33, Tryd.ntmps33
    go_wp2_with fail
    go_ret
    exact ⟨rfl, 0, rfl⟩
  · have hne : s.toList.isEmpty = false := by
      rw [Lib.toList_data]; cases hd : s.data.toList with
      | nil => exact absurd (by rw [← len_eq s, hd]; rfl) h0
      | cons _ _ => rfl
    have HNE : Hid (s.data.toList ≠ []) := by show _; rw [← Lib.toList_data]; intro e; rw [e] at hne; cases hne
    have h1 : 1 ≤ s.size := by omega
    clear h0
    go_enter Tryd.func33, Tryd.ntmps33
    go_wp2_with fail
    go_loopw [3, 4] (fun v i wr => ∃ (k : Nat) (o : ByteArray), k ≤ s.size ∧ i = .int .i64 k ∧ v = .string o ∧ o.data.toList = encTo s k ∧ ∃ n, wr = w.drewN n) (fun _ i _ => s.size - (intOf i).toNat)
    case atStart => exact ⟨0, ⟨#[]⟩, Nat.zero_le _, rfl, rfl, rfl, 0, rfl⟩
    case round =>
      obtain ⟨k, o, hk, rfl, rfl, ho, nw, rfl⟩ := hrel
      have hoz : o.size ≤ 3000 := by have := encTo_len s k; rw [← len_eq o, ho]; omega
      have HO := Lib.hid ho; clear ho
      by_cases hlt : k < s.size
      · have i1 : (k : Int) < s.size := by omega
        have c0 := s[k].toNat_lt
        by_cases hp : plainC s[k] = true
        · have HP : Hid (plainI (s[k].toNat : Int) = true) := hp
          have HE : Hid (encC s[k] = [s[k]]) := by show _ = _; unfold encC; rw [if_pos hp]
          clear hp
          go_wp2_with fail
          refine (rplain_any _ _ (by omega) (by omega)).mono ?_
          rintro e w1 ⟨rfl, rfl⟩
          rw [HP.out]
          go_wp2_with fail
          go_roundw
          case rel => exact ⟨k + 1, _, by omega, by go_num, rfl, by rw [app_data, HO.out, encTo_succ s k hlt, HE.out, one_data s k hlt], _, rfl⟩
          case measure => simp [intOf]; omega
        · have HP : Hid (plainI (s[k].toNat : Int) = false) := by show _ = _; simpa [plainC] using hp
          have HE : Hid (encC s[k] = [37, digU (s[k].toNat / 16), digU (s[k].toNat % 16)]) := by show _ = _; unfold encC; rw [if_neg hp]
          clear hp
          have g1 : (s[k].toNat : Int) / 16 < 16 := by omega
          have g2 : (s[k].toNat : Int) % 16 < 16 := by omega
          have g3 : 0 ≤ (s[k].toNat : Int) / 16 := by omega
          have g4 : 0 ≤ (s[k].toNat : Int) % 16 := by omega
          go_wp2_with fail
          refine (rplain_any _ _ (by omega) (by omega)).mono ?_
          rintro e w1 ⟨rfl, rfl⟩
          rw [HP.out]
          go_wp2_with fail
          go_quiet (fail)
          go_wp2_with fail
          go_roundw
          case rel => exact ⟨k + 1, _, by omega, by go_num, rfl, by
            rw [app_data, app_data, app_data, HO.out, encTo_succ s k hlt, HE.out]; simp [dig_take (s[k].toNat / 16) (by omega), dig_take (s[k].toNat % 16) (by omega)], (by first | exact ⟨_, rfl⟩ | exact ⟨_, by rw [World.drewN_drewN]⟩)⟩
          case measure => simp [intOf]; omega
      · obtain rfl : k = s.size := by omega
        go_wp2_with fail
        go_ret
        refine ⟨congrArg Ending.returned (str_of ?_), _, rfl⟩
        unfold textL; rw [if_neg HNE.out, HO.out, encTo, List.take_of_length_le (by simp)]

/-! ### Parse -/
theorem digit_yes (a : Int) (w : World) (h0 : 0 ≤ a) (h1 : a < 256) (hv : 0 ≤ valI a) :
    Calls Tryd.prog 44 #[.int .u8 a] w fun e w' => e = .returned (.tuple #[.int .u8 (valI a), .bool true]) ∧ w = w' := by
  have h := digit_any a w h0 h1
  rwa [show digR a = valI a from if_pos hv, show digB a = true from decide_eq_true hv] at h
theorem digit_no (a : Int) (w : World) (h0 : 0 ≤ a) (h1 : a < 256) (hv : valI a < 0) :
    Calls Tryd.prog 44 #[.int .u8 a] w fun e w' => e = .returned (.tuple #[.int .u8 0, .bool false]) ∧ w = w' := by
  have h := digit_any a w h0 h1
  rwa [show digR a = 0 from if_neg (by omega), show digB a = false from decide_eq_false (by omega)] at h
def RRead (s : ByteArray) (k : Nat) (acc : List UInt8) : Prop := scan s.data.toList = (scan (s.data.toList.drop k)).map (acc ++ ·) ∧ k ≤ s.size ∧ acc.length ≤ k
theorem RRead.stop {s : ByteArray} {k : Nat} {acc : List UInt8} (h : RRead s k acc) (hk : k < s.size) (ht : takeL (s.data.toList.drop k) = none) (hq : s.data.toList ≠ [34, 34]) : parseV s.data.toList = none := by
  have hne : s.data.toList.drop k ≠ [] := by rw [dataK s k hk]; simp
  unfold parseV
  rw [if_neg hq, h.1, scan_miss hne ht]; rfl
theorem RRead.next {s : ByteArray} {k m : Nat} {acc : List UInt8} {x : UInt8} (h : RRead s k acc) (ht : takeL (s.data.toList.drop k) = some (x, s.data.toList.drop m)) (hm : m ≤ s.size) (hkm : k < m) : RRead s m (acc ++ [x]) := by
  refine ⟨?_, hm, by simp; have := h.2.2; omega⟩
  rw [h.1, scan_hit ht, Option.map_map]
  congr 1
  funext y; simp
theorem RRead.fin {s : ByteArray} {acc : List UInt8} (h : RRead s s.size acc) (hq : s.data.toList ≠ [34, 34]) : parseV s.data.toList = if acc = [] ∨ 250 < acc.length then none else some acc := by
  have e : s.data.toList.drop s.size = [] := List.drop_eq_nil_of_le (by simp)
  unfold parseV
  rw [if_neg hq, h.1, e, scan_nil]
  simp
theorem take_k (s : ByteArray) (k : Nat) (hk : k < s.size) (hp : plainI (s[k].toNat : Int) = true) : takeL (s.data.toList.drop k) = some (s[k], s.data.toList.drop (k + 1)) := by
  rw [dataK s k hk, take_plain _ hp]
theorem take_k_no (s : ByteArray) (k : Nat) (hk : k < s.size) (hp : plainI (s[k].toNat : Int) = false) (hn : ¬ s[k].toNat = 37) : takeL (s.data.toList.drop k) = none := by
  rw [dataK s k hk, take_no _ (by show ¬ plainI (s[k].toNat : Int) = true; rw [hp]; simp) (fun e => hn (by rw [e]; rfl))]
theorem take_k_esc (s : ByteArray) (k : Nat) (hk : k < s.size) (hp : plainI (s[k].toNat : Int) = false) (hn : s[k].toNat = 37) : takeL (s.data.toList.drop k) = tail2 (s.data.toList.drop (k + 1)) := by
  rw [dataK s k hk, take_esc _ (by show ¬ plainI (s[k].toNat : Int) = true; rw [hp]; simp) (UInt8.toNat_inj.1 hn)]
theorem take_k_short (s : ByteArray) (k : Nat) (hk : k < s.size) (hp : plainI (s[k].toNat : Int) = false) (hn : s[k].toNat = 37) (h3 : s.size < k + 3) : takeL (s.data.toList.drop k) = none := by
  rw [take_k_esc s k hk hp hn]
  have hl : (s.data.toList.drop (k + 1)).length ≤ 1 := by rw [List.length_drop, len_eq]; omega
  match s.data.toList.drop (k + 1), hl with
  | [], _ => rfl
  | [_], _ => rfl
  | _ :: _ :: _, hl => simp at hl
theorem take_k_two (s : ByteArray) (k : Nat) (h3 : k + 2 < s.size) (hp : plainI (s[k].toNat : Int) = false) (hn : s[k].toNat = 37) : takeL (s.data.toList.drop k) = (two s[k + 1] s[k + 2]).map fun x => (x, s.data.toList.drop (k + 3)) := by
  rw [take_k_esc s k (by omega) hp hn, dataK s (k + 1) (by omega), dataK s (k + 2) h3]; rfl
theorem two_no {a b : UInt8} (h : valI (a.toNat : Int) < 0 ∨ valI (b.toNat : Int) < 0 ∨ plainI (valI (a.toNat : Int) * 16 + valI (b.toNat : Int)) = true) : two a b = none := by
  unfold two
  rcases h with h | h | h
  · rw [if_pos (Or.inl h)]
  · rw [if_pos (Or.inr h)]
  · by_cases g : valI (a.toNat : Int) < 0 ∨ valI (b.toNat : Int) < 0
    · rw [if_pos g]
    · rw [if_neg g, if_pos h]
theorem two_yes {a b : UInt8} (h1 : (0 : Int) ≤ valI (a.toNat : Int)) (h2 : (0 : Int) ≤ valI (b.toNat : Int)) (h : plainI (valI (a.toNat : Int) * 16 + valI (b.toNat : Int)) = false) : two a b = some (UInt8.ofNat (valI (a.toNat : Int) * 16 + valI (b.toNat : Int)).toNat) := by
  unfold two
  rw [if_neg (by omega), h]; rfl

theorem one_conv (a : Int) (h0 : 0 ≤ a) (h1 : a < 256) (w : World) :
    (convert 48 9 (.slice (some ⟨w.heap.size, 0, none⟩) 1 1)).run Tryd.prog (w.alloc (.cells #[.int .u8 a] 5)) = .ok (.string ⟨#[UInt8.ofNat a.toNat]⟩) (w.alloc (.cells #[.int .u8 a] 5)) := by
  have := run_convert_bytes_back (P := Tryd.prog) (w.alloc (.cells #[.int .u8 a] 5)) 48 9 5 ⟨w.heap.size, 0, none⟩ 1 [UInt8.ofNat a.toNat] Tryd.underlying48 Tryd.underlying5 Tryd.underlying9 fun j hj => by
    obtain rfl : j = 0 := by simpa using hj
    have ha : (⟨w.heap.size, 0, none⟩ : Addr).add 0 = ⟨w.heap.size, 0, none⟩ := by unfold Addr.add; simp
    rw [ha, cell_of_row _ _ 0 _ _ (0, 0) (heap_alloc_new w _)]
    simp only [List.getElem_cons_zero, UInt8.toNat_ofNat']
    rw [show ((a.toNat % 2 ^ 8 : Nat) : Int) = a from by omega]
    rfl
  exact this
def rparseB (s : ByteArray) : Bool := (parseV s.data.toList).isSome
def rparsePost (w : World) (s : ByteArray) : Ending → World → Prop := fun e w' => e = .returned (.tuple #[strV (parseR s), .bool (rparseB s)]) ∧ Below w.heap.size w w'
theorem rparse_none {s : ByteArray} (h : parseV s.data.toList = none) : parseR s = [] ∧ rparseB s = false := by unfold parseR rparseB; rw [h]; exact ⟨rfl, rfl⟩
theorem rparse_some {s : ByteArray} {x : List UInt8} (h : parseV s.data.toList = some x) : parseR s = x ∧ rparseB s = true := by unfold parseR rparseB; rw [h]; exact ⟨rfl, rfl⟩

set_option maxRecDepth 100000 in
set_option maxHeartbeats 1000000 in
theorem rparse_any (s : ByteArray) (w : World) (hs : s.size ≤ 1000) :
    Calls Tryd.prog 34 #[.string s] w (rparsePost w s) := by
  by_cases hq : s.data.toList = [34, 34]
  · have hv : parseV s.data.toList = some [] := by unfold parseV; rw [if_pos hq]
    have HV := Lib.hid (rparse_some hv)
    have hb : (s.toList == [34, 34]) = true := by rw [Lib.toList_data, hq]; rfl
    clear hv hq
    go_enter Tryd.func34, Tryd.ntmps34
    go_wp2_with fail
    go_ret2
    exact ⟨by rw [HV.out.1, HV.out.2]; rfl, Below.refl _ _⟩
  · have hb : (s.toList == [34, 34]) = false := by rw [Lib.toList_data, beq_eq_false_iff_ne]; exact hq
    have HQ := Lib.hid hq; clear hq
    go_enter Tryd.func34, Tryd.ntmps34
    go_wp2_with fail
    go_loopw [4, 5, 6, 7, 8, 9] (fun v i _ _ _ _ wr => ∃ (k : Nat) (o : ByteArray), i = .int .i64 k ∧ v = .string o ∧ Below w.heap.size w wr ∧ RRead s k o.data.toList) (fun _ i _ _ _ _ _ => s.size - (intOf i).toNat)
    case atStart => exact ⟨0, ⟨#[]⟩, rfl, rfl, Below.refl _ _, ⟨by show scan s.data.toList = (scan s.data.toList).map _; cases scan s.data.toList <;> rfl, Nat.zero_le _, by simp⟩⟩
    case round =>
      obtain ⟨k, o, rfl, rfl, hbel, hread⟩ := hrel
      have hk := hread.2.1
      have ho : o.size ≤ 1000 := by have := hread.2.2; rw [len_eq] at this; omega
      have HR := Lib.hid hread; clear hread
      have hsz := hbel.size
      have HB := Lib.hid hbel; clear hbel
      by_cases hlt : k < s.size
      · have i1 : (k : Int) < s.size := by omega
        have c0 := s[k].toNat_lt
        by_cases hp : plainI (s[k].toNat : Int) = true
        · have HR' := Lib.hid (HR.out.next (take_k s k hlt hp) (by omega) (by omega))
          have HP := Lib.hid hp; clear hp
          go_wp2_with fail
          refine (rplain_any _ _ (by omega) (by omega)).mono ?_
          rintro e w1 ⟨rfl, rfl⟩
          rw [HP.out]
          go_wp2_with fail
          go_roundw
          case rel => exact ⟨k + 1, _, by go_num, rfl, HB.out, by rw [app_data, one_data s k hlt]; exact HR'.out⟩
          case measure => simp [intOf]; omega
        · have hp' : plainI (s[k].toNat : Int) = false := by simpa using hp
          clear hp
          by_cases hn : s[k].toNat = 37
          · have hbn : (((s[k].toNat : Nat) : Int) != 37) = false := by rw [hn]; rfl
            by_cases h3 : k + 2 < s.size
            · have hT := take_k_two s k h3 hp' hn
              have HP := Lib.hid hp'; clear hp'
              have HN := Lib.hid hn; clear hn
              have j1 : (k : Int) + 1 < s.size := by omega
              have j2 : (k : Int) + 2 < s.size := by omega
              have j1' : k + 1 < s.size := by omega
              have d3 : decide ((s.size : Int) - k < 3) = false := by simp; omega
              have c1 := s[k + 1].toNat_lt
              have c2 := s[k + 2].toNat_lt
              by_cases v1 : (0 : Int) ≤ valI (s[k + 1].toNat : Int)
              · have V1 := Lib.hid v1
                have u1 := (valI_bd (s[k + 1].toNat : Int)).2
                by_cases v2 : (0 : Int) ≤ valI (s[k + 2].toNat : Int)
                · have V2 := Lib.hid v2
                  have u2 := (valI_bd (s[k + 2].toNat : Int)).2
                  by_cases hq2 : plainI (valI (s[k + 1].toNat : Int) * 16 + valI (s[k + 2].toNat : Int)) = true
                  · have HV := Lib.hid (rparse_none (HR.out.stop hlt (by rw [hT, two_no (Or.inr (Or.inr hq2))]; rfl) HQ.out))
                    have HQ2 : Hid (plainI (16 * valI (s[k + 1].toNat : Int) + valI (s[k + 2].toNat : Int)) = true) := by show _ = _; rw [Int.mul_comm]; exact hq2
                    clear hq2 hT
                    go_wp2_with fail
                    refine (rplain_any _ _ (by omega) (by omega)).mono ?_
                    rintro e w1 ⟨rfl, rfl⟩
                    rw [HP.out]
                    go_wp2_with fail
                    refine (digit_yes _ _ (by omega) (by omega) V1.out).mono ?_
                    rintro e w1 ⟨rfl, rfl⟩
                    go_wp2_with fail
                    refine (digit_yes _ _ (by omega) (by omega) V2.out).mono ?_
                    rintro e w1 ⟨rfl, rfl⟩
                    go_wp2_with fail
                    refine (rplain_any _ _ (by omega) (by omega)).mono ?_
                    rintro e w1 ⟨rfl, rfl⟩
                    rw [HQ2.out]
                    go_wp2_with fail
                    go_ret2
                    exact ⟨by rw [HV.out.1, HV.out.2]; rfl, HB.out⟩
                  · have hq3 : plainI (valI (s[k + 1].toNat : Int) * 16 + valI (s[k + 2].toNat : Int)) = false := by simpa using hq2
                    have HR' := Lib.hid (HR.out.next (by rw [hT, two_yes v1 v2 hq3]; rfl) (by omega) (by omega))
                    have HQ2 : Hid (plainI (16 * valI (s[k + 1].toNat : Int) + valI (s[k + 2].toNat : Int)) = false) := by show _ = _; rw [Int.mul_comm]; exact hq3
                    have hcv := one_conv (16 * valI (s[k + 1].toNat : Int) + valI (s[k + 2].toNat : Int)) (by omega) (by omega) wr
                    clear hq2 hq3 hT
                    go_wp2_with fail
                    refine (rplain_any _ _ (by omega) (by omega)).mono ?_
                    rintro e w1 ⟨rfl, rfl⟩
                    rw [HP.out]
                    go_wp2_with fail
                    refine (digit_yes _ _ (by omega) (by omega) V1.out).mono ?_
                    rintro e w1 ⟨rfl, rfl⟩
                    go_wp2_with fail
                    refine (digit_yes _ _ (by omega) (by omega) V2.out).mono ?_
                    rintro e w1 ⟨rfl, rfl⟩
                    go_wp2_with fail
                    refine (rplain_any _ _ (by omega) (by omega)).mono ?_
                    rintro e w1 ⟨rfl, rfl⟩
                    rw [HQ2.out]
                    go_wp2_with fail
                    go_roundw
                    case rel => exact ⟨k + 3, _, by go_num, rfl, HB.out.alloc hsz _, by
                      rw [app_data, Int.mul_comm 16]; exact HR'.out⟩
                    case measure => simp [intOf]; omega
                · have V2 : Hid (valI (s[k + 2].toNat : Int) < 0) := by show _ < _; omega
                  have HV := Lib.hid (rparse_none (HR.out.stop hlt (by rw [hT, two_no (Or.inr (Or.inl V2.out))]; rfl) HQ.out))
                  clear v2 hT
                  go_wp2_with fail
                  refine (rplain_any _ _ (by omega) (by omega)).mono ?_
                  rintro e w1 ⟨rfl, rfl⟩
                  rw [HP.out]
                  go_wp2_with fail
                  refine (digit_yes _ _ (by omega) (by omega) V1.out).mono ?_
                  rintro e w1 ⟨rfl, rfl⟩
                  go_wp2_with fail
                  refine (digit_no _ _ (by omega) (by omega) V2.out).mono ?_
                  rintro e w1 ⟨rfl, rfl⟩
                  go_wp2_with fail
                  go_ret2
                  exact ⟨by rw [HV.out.1, HV.out.2]; rfl, HB.out⟩
              · have V1 : Hid (valI (s[k + 1].toNat : Int) < 0) := by show _ < _; omega
                have HV := Lib.hid (rparse_none (HR.out.stop hlt (by rw [hT, two_no (Or.inl V1.out)]; rfl) HQ.out))
                clear v1 hT
                by_cases v2 : (0 : Int) ≤ valI (s[k + 2].toNat : Int)
                · have V2 := Lib.hid v2
                  go_wp2_with fail
                  refine (rplain_any _ _ (by omega) (by omega)).mono ?_
                  rintro e w1 ⟨rfl, rfl⟩
                  rw [HP.out]
                  go_wp2_with fail
                  refine (digit_no _ _ (by omega) (by omega) V1.out).mono ?_
                  rintro e w1 ⟨rfl, rfl⟩
                  go_wp2_with fail
                  refine (digit_yes _ _ (by omega) (by omega) V2.out).mono ?_
                  rintro e w1 ⟨rfl, rfl⟩
                  go_wp2_with fail
                  go_ret2
                  exact ⟨by rw [HV.out.1, HV.out.2]; rfl, HB.out⟩
                · have V2 : Hid (valI (s[k + 2].toNat : Int) < 0) := by show _ < _; omega
                  clear v2
                  go_wp2_with fail
                  refine (rplain_any _ _ (by omega) (by omega)).mono ?_
                  rintro e w1 ⟨rfl, rfl⟩
                  rw [HP.out]
                  go_wp2_with fail
                  refine (digit_no _ _ (by omega) (by omega) V1.out).mono ?_
                  rintro e w1 ⟨rfl, rfl⟩
                  go_wp2_with fail
                  refine (digit_no _ _ (by omega) (by omega) V2.out).mono ?_
                  rintro e w1 ⟨rfl, rfl⟩
                  go_wp2_with fail
                  go_ret2
                  exact ⟨by rw [HV.out.1, HV.out.2]; rfl, HB.out⟩
            · have HV := Lib.hid (rparse_none (HR.out.stop hlt (take_k_short s k hlt hp' hn (by omega)) HQ.out))
              have HP := Lib.hid hp'; clear hp'
              have HN := Lib.hid hn; clear hn
              have d3 : decide ((s.size : Int) - k < 3) = true := by simp; omega
              go_wp2_with fail
              refine (rplain_any _ _ (by omega) (by omega)).mono ?_
              rintro e w1 ⟨rfl, rfl⟩
              rw [HP.out]
              go_wp2_with fail
              go_ret2
              exact ⟨by rw [HV.out.1, HV.out.2]; rfl, HB.out⟩
          · have hbn : (((s[k].toNat : Nat) : Int) != 37) = true := by rw [bne_iff_ne]; omega
            have HV := Lib.hid (rparse_none (HR.out.stop hlt (take_k_no s k hlt hp' hn) HQ.out))
            have HP := Lib.hid hp'; clear hp'
            have HN := Lib.hid hn; clear hn
            go_wp2_with fail
            refine (rplain_any _ _ (by omega) (by omega)).mono ?_
            rintro e w1 ⟨rfl, rfl⟩
            rw [HP.out]
            go_wp2_with fail
            go_ret2
            exact ⟨by rw [HV.out.1, HV.out.2]; rfl, HB.out⟩
      · obtain rfl : k = s.size := by omega
        have hf := HR.out.fin HQ.out
        have hnn : ¬ (s.size : Int) < s.size := by omega
        by_cases ha : o.data.toList = []
        · rw [if_pos (Or.inl ha)] at hf
          have HV := Lib.hid (rparse_none hf)
          have he0 : o.toList = [] := by rw [Lib.toList_data]; exact ha
          have he1 : (!o.toList.isEmpty) = false := by rw [he0]; rfl
          have he2 : o.toList.isEmpty = true := by rw [he0]; rfl
          clear hf hlt ha
          go_wp2_with fail
          go_ret2
          exact ⟨by rw [HV.out.1, HV.out.2]; rfl, HB.out⟩
        · have he2 : o.toList.isEmpty = false := by
            rw [Lib.toList_data]; cases hd : o.data.toList with
            | nil => exact absurd hd ha
            | cons _ _ => rfl
          have he0 : ¬ o.toList = [] := by rw [Lib.toList_data]; exact ha
          by_cases hb250 : 250 < o.size
          · rw [if_pos (Or.inr (by rw [len_eq]; exact hb250))] at hf
            have HV := Lib.hid (rparse_none hf)
            clear hf hlt ha
            have d250 : decide (250 < (o.size : Int)) = true := by simp; omega
            go_wp2_with fail
            go_ret2
            exact ⟨by rw [HV.out.1, HV.out.2]; rfl, HB.out⟩
          · rw [if_neg (by rintro (h | h); exact ha h; rw [len_eq] at h; exact hb250 h)] at hf
            have HV := Lib.hid (rparse_some hf)
            clear hf hlt ha
            have d250 : decide (250 < (o.size : Int)) = false := by simp; omega
            go_wp2_with fail
            go_ret2
            exact ⟨by rw [HV.out.1, HV.out.2]; show Ending.returned (.tuple #[.string o, .bool true]) = _; rw [str_of (o := o) rfl], HB.out⟩
end Go.Proofs.YtjieiakgikhofaaDoor.Kr
