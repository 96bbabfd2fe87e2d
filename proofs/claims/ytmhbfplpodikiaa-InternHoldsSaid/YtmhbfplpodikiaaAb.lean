/- Proves what the document's small functions on names return: which strings are names, the number of a name, whether a number is one's, how many names there are. Conditions: as each theorem names them. -/
import Derived.Test.YtmhbfplpodikiaaAa
import Derived.Test.YtmhbfplpodikiaaRg
import Derived.BigQuiet
import Derived.Deep.QuietTactic
import Derived.Deep.Cut
import Derived.Lib.Strings
import Derived.Lib.ConvBytes
namespace Go.Proofs.Ytmhbfplpodikiaa.Ab
open Go.RowKit Ap Mi Nw Aa

def vPost (w : World) (v : Value) : Ending → World → Prop := fun q w' => q = .returned v ∧ Below w.heap.size w w'
def nrC (x : Nr) : List Value := [.string x.k, .int .i64 x.r]
def nrL (l : List Nr) : List Value := l.flatMap nrC
theorem nrL_len : ∀ (l : List Nr), (nrL l).length = l.length * 2
  | [] => rfl
  | x :: l => by
    have := nrL_len l
    unfold nrL at this ⊢
    rw [List.flatMap_cons, List.length_append, this, List.length_cons]
    show 2 + l.length * 2 = (l.length + 1) * 2
    omega
theorem nrL_append (l m : List Nr) : nrL (l ++ m) = nrL l ++ nrL m := by unfold nrL; rw [List.flatMap_append]
theorem nrL_one (l : List Nr) : ∀ u ∈ nrL l, u.oneCell' = true := by
  intro u hu
  unfold nrL at hu
  obtain ⟨x, _, h⟩ := List.mem_flatMap.1 hu
  simp only [nrC, List.mem_cons, List.not_mem_nil, or_false] at h
  rcases h with rfl | rfl <;> rfl
theorem nrL_get : ∀ (l : List Nr) (k : Nat) (h : k < l.length), (nrL l)[k * 2]? = some (.string l[k].k) ∧ (nrL l)[k * 2 + 1]? = some (.int .i64 l[k].r)
  | [], k, h => by simp at h
  | x :: l, 0, _ => ⟨rfl, rfl⟩
  | x :: l, k + 1, h => by
    obtain ⟨h1, h2⟩ := nrL_get l k (by simpa using h)
    have e : nrL (x :: l) = nrC x ++ nrL l := by unfold nrL; rw [List.flatMap_cons]
    rw [e, show (k + 1) * 2 = 2 + k * 2 by omega]
    refine ⟨?_, ?_⟩
    · rw [List.getElem?_append_right (by show 2 ≤ _; omega)]
      show (nrL l)[2 + k * 2 - 2]? = _
      rw [show 2 + k * 2 - 2 = k * 2 by omega]; exact h1
    · rw [List.getElem?_append_right (by show 2 ≤ _; omega)]
      show (nrL l)[2 + k * 2 + 1 - 2]? = _
      rw [show 2 + k * 2 + 1 - 2 = k * 2 + 1 by omega]; exact h2
/-- A list of names in memory, in blocks of G. -/
structure RT (G : Nat → Prop) (w : World) (A : Option Addr) (c : Nat) (l : List Nr) : Prop where
  r : Rs w 2 A l.length c (nrL l)
  g : ∀ a, A = some a → G a.block
section
variable {G G' F : Nat → Prop} {w w' : World} {l : List Nr} {A : Option Addr} {c : Nat}
theorem RT.nil : RT G w none 0 [] := ⟨Rs.nil _ _, fun a e => by cases e⟩
theorem RT.below (h : RT G w A c l) {B : Nat} (hb : Below B w w') (hB : w.heap.size ≤ B) : RT G w' A c l := ⟨h.r.below hb hB, h.g⟩
theorem RT.only (h : RT G w A c l) (ho : Only F w w') (hn : ∀ j, F j → ¬ G j) : RT G w' A c l := ⟨h.r.only ho (fun a e hf => hn _ hf (h.g a e)), h.g⟩
theorem RT.mono (h : RT G w A c l) (hG : ∀ j, G j → G' j) : RT G' w A c l := ⟨h.r, fun a e => hG _ (h.g a e)⟩
theorem RT.at_ (h : RT G w A c l) {k : Nat} (hk : k < l.length) : ∃ b o, A = some ⟨b, o, none⟩ ∧ b < w.heap.size ∧ w.cell? ⟨b, o + k * 2, none⟩ = some (.string l[k].k) ∧ w.cell? ⟨b, o + k * 2 + 1, none⟩ = some (.int .i64 l[k].r) := by
  obtain ⟨h1, h2⟩ := nrL_get l k hk
  obtain ⟨b, o, e, hl, c1⟩ := h.r.rd.at_ h1
  obtain ⟨b', o', e', _, c2⟩ := h.r.rd.at_ h2
  rw [e] at e'; injection e' with e'; injection e' with e1 e2
  subst e1; subst e2
  exact ⟨b, o, e, hl, c1, by rw [Nat.add_assoc]; exact c2⟩
end
def tbV (m : Int) (A : Option Addr) (n c : Nat) : Value := .agg #[.int .i64 m, .slice A n c]
def tbA (m : Int) (A : Option Addr) (n c : Nat) : Array Value := #[.int .i64 m, .slice A n c]
theorem str_yes {a b : ByteArray} (h : a = b) : (a.toList == b.toList) = true := by rw [h]; simp
theorem str_no {a b : ByteArray} (h : ¬ a = b) : (a.toList == b.toList) = false := by
  rw [beq_eq_false_iff_ne]
  intro e
  rw [Lib.toList_data, Lib.toList_data] at e
  apply h
  cases a; cases b
  simp only [ByteArray.mk.injEq]
  exact Array.toList_inj.1 e
open Classical in
set_option maxRecDepth 100000 in
theorem valid_any (k : ByteArray) (w : World) : Calls Try.prog 33 #[.string k] w fun q w' => q = .returned (.bool (decide (okN k))) ∧ w' = w := by
  obtain ⟨B, hB⟩ : ∃ B, B = decide (okN k) := ⟨_, rfl⟩
  rw [← hB]
  go_enter Try.func33, Try.ntmps33
  by_cases h1 : 1 ≤ k.size
  · have i1 : (1 : Int) ≤ (k.size : Int) := by omega
    by_cases h2 : k.size ≤ 64
    · have i2 : (k.size : Int) ≤ 64 := by omega
      have hd : decide (okN k) = true := decide_eq_true ⟨h1, h2⟩
      rw [hd] at hB
      subst hB
      clear h1 h2 hd
      go_wp2_with fail
      go_ret
      exact ⟨rfl, rfl⟩
    · have i2 : ¬ (k.size : Int) ≤ 64 := by omega
      have hd : decide (okN k) = false := decide_eq_false fun h => h2 h.2
      rw [hd] at hB
      subst hB
      clear h1 h2 hd
      go_wp2_with fail
      go_ret
      exact ⟨rfl, rfl⟩
  · have i1 : ¬ (1 : Int) ≤ (k.size : Int) := by omega
    have hd : decide (okN k) = false := decide_eq_false fun h => h1 h.1
    rw [hd] at hB
    subst hB
    clear h1 hd
    go_wp2_with fail
    go_ret
    exact ⟨rfl, rfl⟩
section
variable {G : Nat → Prop} {w : World} {l : List Nr} {A : Option Addr} {c : Nat}
theorem has_any (m n : Int) (h : RT G w A c l) : Calls Try.prog 32 #[tbV m A l.length c, .int .i64 n] w (vPost w (.bool (decide (has l n)))) := by
  obtain ⟨v0, hv0⟩ : ∃ v0, v0 = w.alloc (.cells (tbA m A l.length c) 31) := ⟨_, rfl⟩
  have HB0 : Hid (Below w.heap.size w v0) := by show Below _ _ _; rw [hv0]; exact bnew _ _
  have HK0 : Hid (Blk v0 w.heap.size (tbA m A l.length c) 31) := by show Blk _ _ _ _; rw [hv0]; exact Blk.new w _ _
  have HR := Lib.hid (h.below HB0.out (Nat.le_refl _))
  have hcm := Rs.max h.r
  have hcl := Rs.le h.r
  unfold maxLen at hcm
  unfold tbA at hv0 HK0
  obtain ⟨x0, x1, _, _⟩ := HK0.out.two
  have lg := HK0.out.lt
  unfold vPost tbV
  clear h
  obtain ⟨B, hB⟩ : ∃ B, B = decide (has l n) := ⟨_, rfl⟩
  rw [← hB]
  go_enter Try.func32, Try.ntmps32
  go_upto_region 1 with fail
  rw [← hv0]
  clear hv0
  by_cases h0 : 0 ≤ n
  · obtain ⟨i, rfl⟩ : ∃ i : Nat, n = (i : Int) := ⟨n.toNat, by omega⟩
    by_cases h1 : i < l.length
    · have i1 : (i : Int) < (l.length : Int) := by omega
      obtain ⟨b, o, rfl, lb, e0, e1⟩ := HR.out.at_ h1
      obtain ⟨x, hx⟩ : ∃ x, x = l[i] := ⟨_, rfl⟩
      rw [← hx] at e0 e1
      have hd : decide (has l (i : Int)) = decide (0 < x.r) := by rw [hx]; exact decide_eq_decide.2 (has_nat h1)
      rw [hd] at hB
      clear hx hd h1
      by_cases h2 : 0 < x.r
      · rw [decide_eq_true h2] at hB
        subst hB
        go_wp2_with fail
        go_ret
        exact ⟨rfl, HB0.out⟩
      · rw [decide_eq_false h2] at hB
        subst hB
        go_wp2_with fail
        go_ret
        exact ⟨rfl, HB0.out⟩
    · have i1 : ¬ (i : Int) < (l.length : Int) := by omega
      have hd : decide (has l (i : Int)) = false := decide_eq_false fun h => h1 (by have := h.2.1; omega)
      rw [hd] at hB
      subst hB
      clear hd h1
      go_wp2_with fail
      go_ret
      exact ⟨rfl, HB0.out⟩
  · have hd : decide (has l n) = false := decide_eq_false fun h => h0 h.1
    rw [hd] at hB
    subst hB
    clear hd
    go_wp2_with fail
    go_ret
    exact ⟨rfl, HB0.out⟩
theorem len_any (m : Int) (h : RT G w A c l) (hl : l.length ≤ 1000000) : Calls Try.prog 30 #[tbV m A l.length c] w (vPost w (.int .i64 (cnt l : Int))) := by
  obtain ⟨v0, hv0⟩ : ∃ v0, v0 = w.alloc (.cells (tbA m A l.length c) 31) := ⟨_, rfl⟩
  have HB0 : Hid (Below w.heap.size w v0) := by show Below _ _ _; rw [hv0]; exact bnew _ _
  have HK0 : Hid (Blk v0 w.heap.size (tbA m A l.length c) 31) := by show Blk _ _ _ _; rw [hv0]; exact Blk.new w _ _
  have HR := Lib.hid (h.below HB0.out (Nat.le_refl _))
  have hcm := Rs.max h.r
  have hcl := Rs.le h.r
  unfold maxLen at hcm
  unfold tbA at hv0 HK0
  obtain ⟨x0, x1, _, _⟩ := HK0.out.two
  have lg := HK0.out.lt
  unfold vPost tbV
  clear h
  go_enter Try.func30, Try.ntmps30
  go_upto_region 3 with fail
  rw [← hv0]
  clear hv0
  go_wp2_with fail
  go_loopw [3, 4] (fun n i wr => ∃ k : Nat, k ≤ l.length ∧ i = .int .i64 (k : Int) ∧ n = .int .i64 (cnt (l.take k) : Int) ∧ wr = v0) (fun _ i _ => l.length - (intOf i).toNat)
  case atStart => exact ⟨0, Nat.zero_le _, rfl, rfl, rfl⟩
  case round =>
    obtain ⟨k, hk, rfl, rfl, rfl⟩ := hrel
    by_cases hlt : k < l.length
    · have i1 : (k : Int) < (l.length : Int) := by omega
      obtain ⟨b, o, rfl, lb, e0, e1⟩ := HR.out.at_ hlt
      obtain ⟨x, hx⟩ : ∃ x, x = l[k] := ⟨_, rfl⟩
      rw [← hx] at e0 e1
      have hc := cnt_take hlt
      rw [← hx] at hc
      have hcc : cnt (l.take k) ≤ 1000000 := Nat.le_trans (cnt_le _) (by rw [List.length_take]; omega)
      obtain ⟨q, hq⟩ : ∃ q, q = cnt (l.take k) := ⟨_, rfl⟩
      rw [← hq] at hc hcc ⊢
      have HC := Lib.hid hc
      clear hx hc hq
      by_cases h2 : 0 < x.r
      · have HCC : Hid (cnt (l.take (k + 1)) = q + 1) := by show _ = _; rw [HC.out, if_pos h2]
        clear HC
        go_wp2_with fail
        go_roundw
        case rel => exact ⟨k + 1, by omega, by simp, by rw [HCC.out]; simp, trivial⟩
        case measure => simp [intOf]; omega
      · have HCC : Hid (cnt (l.take (k + 1)) = q) := by show _ = _; rw [HC.out, if_neg h2]; rfl
        clear HC
        go_wp2_with fail
        go_roundw
        case rel => exact ⟨k + 1, by omega, by simp, by rw [HCC.out], trivial⟩
        case measure => simp [intOf]; omega
    · obtain rfl : k = l.length := by omega
      have i1 : ¬ (l.length : Int) < (l.length : Int) := by omega
      rw [List.take_length]
      clear hlt
      go_wp2_with fail
      go_ret
      exact ⟨rfl, HB0.out⟩
theorem find_any (m : Int) (k : ByteArray) (h : RT G w A c l) : Calls Try.prog 34 #[tbV m A l.length c, .string k] w (vPost w (.int .i64 (fndI l k))) := by
  obtain ⟨v0, hv0⟩ : ∃ v0, v0 = w.alloc (.cells (tbA m A l.length c) 31) := ⟨_, rfl⟩
  have HB0 : Hid (Below w.heap.size w v0) := by show Below _ _ _; rw [hv0]; exact bnew _ _
  have HK0 : Hid (Blk v0 w.heap.size (tbA m A l.length c) 31) := by show Blk _ _ _ _; rw [hv0]; exact Blk.new w _ _
  have HR := Lib.hid (h.below HB0.out (Nat.le_refl _))
  have hcm := Rs.max h.r
  have hcl := Rs.le h.r
  unfold maxLen at hcm
  unfold tbA at hv0 HK0
  obtain ⟨x0, x1, _, _⟩ := HK0.out.two
  have lg := HK0.out.lt
  unfold vPost tbV
  clear h
  obtain ⟨R, hR⟩ : ∃ R, R = fndI l k := ⟨_, rfl⟩
  rw [← hR]
  have HRR := Lib.hid hR
  clear hR
  go_enter Try.func34, Try.ntmps34
  go_upto_region 2 with fail
  rw [← hv0]
  clear hv0
  go_wp2_with fail
  go_loopw [5] (fun i wr => ∃ K : Nat, K ≤ l.length ∧ i = .int .i64 (K : Int) ∧ Hid (∀ j (hj : j < l.length), j < K → ¬ (0 < l[j].r ∧ l[j].k = k)) ∧ wr = v0) (fun i _ => l.length - (intOf i).toNat)
  case atStart => exact ⟨0, Nat.zero_le _, rfl, Lib.hid (fun j _ hj => by omega), rfl⟩
  case round =>
    obtain ⟨K, hK, rfl, HN, rfl⟩ := hrel
    by_cases hlt : K < l.length
    · have i1 : (K : Int) < (l.length : Int) := by omega
      obtain ⟨b, o, rfl, lb, e0, e1⟩ := HR.out.at_ hlt
      obtain ⟨x, hx⟩ : ∃ x, x = l[K] := ⟨_, rfl⟩
      rw [← hx] at e0 e1
      have HX := Lib.hid hx
      clear hx
      by_cases h2 : 0 < x.r
      · by_cases h3 : x.k = k
        · have HF : R = (K : Int) := by rw [HRR.out]; unfold fndI; rw [fnd_at hlt HN.out (by rw [← HX.out]; exact ⟨h2, h3⟩)]
          have hb := str_yes h3
          subst HF
          clear h3
          go_wp2_with fail
          go_ret
          exact ⟨rfl, HB0.out⟩
        · have hb := str_no h3
          have HM : Hid (∀ j (hj : j < l.length), j < K + 1 → ¬ (0 < l[j].r ∧ l[j].k = k)) := fun j hj hjk => by
            rcases Nat.lt_or_ge j K with h4 | h4
            · exact HN.out j hj h4
            · obtain rfl : j = K := by omega
              rw [← HX.out]; exact fun q => h3 q.2
          clear h3
          go_wp2_with fail
          go_roundw
          case rel => exact ⟨K + 1, by omega, by simp, HM, trivial⟩
          case measure => simp [intOf]; omega
      · have HM : Hid (∀ j (hj : j < l.length), j < K + 1 → ¬ (0 < l[j].r ∧ l[j].k = k)) := fun j hj hjk => by
          rcases Nat.lt_or_ge j K with h4 | h4
          · exact HN.out j hj h4
          · obtain rfl : j = K := by omega
            rw [← HX.out]; exact fun q => h2 q.1
        go_wp2_with fail
        go_roundw
        case rel => exact ⟨K + 1, by omega, by simp, HM, trivial⟩
        case measure => simp [intOf]; omega
    · obtain rfl : K = l.length := by omega
      have i1 : ¬ (l.length : Int) < (l.length : Int) := by omega
      have HF : R = -1 := by rw [HRR.out]; unfold fndI; rw [fnd_no fun i hi => HN.out i hi hi]
      subst HF
      clear hlt
      go_wp2_with fail
      go_ret
      exact ⟨rfl, HB0.out⟩
end
end Go.Proofs.Ytmhbfplpodikiaa.Ab
