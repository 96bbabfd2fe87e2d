/- Proves what the functions Home, way, Len and Find of the specification's table return. Conditions: as each theorem names them. -/
import Derived.Test.YthabnffmlgppdaaTo
import Derived.Test.YthabnffmlgppdaaHw
import Derived.Test.YthabnffmlgppdaaNw
import Derived.BigQuiet
import Derived.Deep.QuietTactic
namespace Go.Proofs.Ythabnffmlgppdaa.Ta
open Go.RowKit Ap Mi Nw Hm Tm Tn To
open Hw (refsum_any)

/-- Keys are bytes; a free cell reads as the empty key and the number 0. -/
abbrev Key := List UInt8
def sV (k : Key) : Value := .string ⟨k.toArray⟩
def ck : Cell Key → Key
  | none => []
  | some (k, _) => k
def cn : Cell Key → Nat
  | none => 0
  | some (_, x) => x
def kc (c : List (Cell Key)) : List Value := c.map fun o => sV (ck o)
def nc (c : List (Cell Key)) : List Value := c.map fun o => .int .i64 (cn o : Int)
theorem kc_len (c : List (Cell Key)) : (kc c).length = c.length := by unfold kc; simp
theorem nc_len (c : List (Cell Key)) : (nc c).length = c.length := by unfold nc; simp
theorem kc_get {c : List (Cell Key)} {i : Nat} (hi : i < c.length) : (kc c)[i]? = some (.string ⟨(ck c[i]).toArray⟩) := by unfold kc; rw [List.getElem?_map, List.getElem?_eq_getElem hi]; rfl
theorem nc_get {c : List (Cell Key)} {i : Nat} (hi : i < c.length) : (nc c)[i]? = some (.int .i64 (cn c[i] : Int)) := by unfold nc; rw [List.getElem?_map, List.getElem?_eq_getElem hi]; rfl
/-- Which keys and numbers stand in cells. -/
def Kys (c : List (Cell Key)) : Prop := ∀ k x, some (k, x) ∈ c → 1 ≤ k.length ∧ k.length ≤ 250 ∧ x ≤ 9223372036854775807
/-- The cells of a table as two slices. -/
structure Tb (w : World) (c : List (Cell Key)) (X : Option Addr) (p : Nat) (Y : Option Addr) (q : Nat) : Prop where
  ks : Rs w 1 X c.length p (kc c)
  ns : Rs w 1 Y c.length q (nc c)
theorem Tb.below {w w' : World} {c : List (Cell Key)} {X Y : Option Addr} {p q B : Nat} (h : Tb w c X p Y q) (hb : Below B w w') (hB : w.heap.size ≤ B) : Tb w' c X p Y q := ⟨h.ks.below hb hB, h.ns.below hb hB⟩
/-- The home of a key. -/
def hom (seed : Int) (n : Nat) (k : Key) : Nat := (mixI (sumL seed k) % (n : Int)).toNat
theorem hom_cast (seed : Int) {n : Nat} (hn : 0 < n) (k : Key) : mixI (sumL seed k) % (n : Int) = (hom seed n k : Int) := by
  unfold hom
  have := Int.emod_nonneg (mixI (sumL seed k)) (show (n : Int) ≠ 0 by omega)
  omega
theorem hom_lt (seed : Int) : ∀ n, 0 < n → ∀ k, hom seed n k < n := fun n hn k => by
  have := Int.emod_lt_of_pos (mixI (sumL seed k)) (show (0 : Int) < (n : Int) by omega)
  have := hom_cast seed hn k
  omega
section
variable {w : World} {X Y : Option Addr} {p q : Nat} {seed : Int}
set_option maxRecDepth 100000 in
set_option maxHeartbeats 400000 in
theorem way_any {n : Nat} (u v : Nat) (hu : u < n) (hv : v < n) (hn : n ≤ 100000000) :
    Calls Try.prog 41 #[.agg #[.int .u64 seed, .slice X n p, .slice Y n q], .int .i64 (u : Int), .int .i64 (v : Int)] w fun e w' => e = .returned (.int .i64 (way n u v : Int)) ∧ Below w.heap.size w w' := by
  have HE : Hid (((v : Int) - (u : Int) + (n : Int)) % (n : Int) = (way n u v : Int)) := by
    show _ = _
    rw [← way_mod hu hv, show (v : Int) - (u : Int) + (n : Int) = ((v + n - u : Nat) : Int) by omega]
    exact (Int.natCast_emod _ _).symm
  have g0 : 0 < (n : Int) := by omega
  have g1 : (n : Int) ≤ 100000000 := by omega
  have g2 : (u : Int) < (n : Int) := by omega
  have g3 : (v : Int) < (n : Int) := by omega
  go_enter Try.func41, Try.ntmps41
  go_wp2_with fail
  go_ret
  exact ⟨retI HE.out, bnew _ _⟩
set_option maxRecDepth 100000 in
set_option maxHeartbeats 400000 in
theorem home_any {n : Nat} (k : Key) (hk : k.length ≤ 1000000) (hs : U64 seed) (h0 : 0 < n) (hn : n ≤ 100000000) :
    Calls Try.prog 40 #[.agg #[.int .u64 seed, .slice X n p, .slice Y n q], .string ⟨k.toArray⟩] w fun e w' => e = .returned (.int .i64 (hom seed n k : Int)) ∧ Below w.heap.size w w' := by
  have hsz : (⟨k.toArray⟩ : ByteArray).size ≤ maxLen := by show k.toArray.size ≤ maxLen; unfold maxLen; simp; omega
  have HS : Hid (∀ W, Calls Try.prog 52 #[.int .u64 seed, .string ⟨k.toArray⟩] W fun e w' => e = .returned (.int .u64 (mixI (sumL seed k))) ∧ w' = W) := fun W => (refsum_any seed ⟨k.toArray⟩ W hs hsz).mono fun _ _ h => ⟨h.1, h.2.symm⟩
  obtain ⟨b0, b1⟩ := mix_bd (sumL seed k)
  have HE := Lib.hid (hom_cast seed h0 k)
  have hlt := hom_lt seed _ h0 k
  obtain ⟨x, hx⟩ : ∃ x, x = mixI (sumL seed k) := ⟨_, rfl⟩
  rw [← hx] at HS b0 b1 HE
  obtain ⟨y, hy⟩ : ∃ y, y = hom seed n k := ⟨_, rfl⟩
  rw [← hy] at hlt HE ⊢
  clear hx hy hs hsz
  have g0 : 0 < (n : Int) := by omega
  have g1 : (n : Int) ≤ 100000000 := by omega
  go_enter Try.func40, Try.ntmps40
  go_wp2_with fail
  go_quiet ((go_at_call 52; exact Calls.quiet_of_same (HS.out _)))
  go_wp2_with fail
  go_ret
  exact ⟨retI (by rw [HE.out]; exact IntWalk.wrap64_in _ (by omega)), ((Only.of_below (bnew w _) (Nat.le_refl _) (fun _ => False)).drewN _).below (fun _ hf => hf.elim) (Nat.le_refl _)⟩
/-- Where a search through all cells ends. -/
def Fd (c : List (Cell Key)) (k : Key) (r : Int) : Prop :=
  (∃ i : Nat, r = (i : Int) ∧ i < c.length ∧ isK k (c.getD i none) = true ∧ ∀ j, j < i → isK k (c.getD j none) = false) ∨ (r = -1 ∧ ∀ j, j < c.length → isK k (c.getD j none) = false)
theorem fd_yes {c : List (Cell Key)} {k : Key} {r : Int} (h : Fd c k r) {K : Nat} (hl : K < c.length) (hi : isK k (c.getD K none) = true) (hm : ∀ j, j < K → isK k (c.getD j none) = false) : r = (K : Int) := by
  rcases h with ⟨i, rfl, h1, h2, h3⟩ | ⟨_, h1⟩
  · rcases Nat.lt_trichotomy i K with h4 | h4 | h4
    · rw [hm i h4] at h2; cases h2
    · rw [h4]
    · rw [h3 K h4] at hi; cases hi
  · rw [h1 K hl] at hi; cases hi
theorem fd_no {c : List (Cell Key)} {k : Key} {r : Int} (h : Fd c k r) (hm : ∀ j, j < c.length → isK k (c.getD j none) = false) : r = -1 := by
  rcases h with ⟨i, _, h1, h2, _⟩ | ⟨h1, _⟩
  · rw [hm i h1] at h2; cases h2
  · exact h1
theorem fd_there {H : Nat → Key → Nat} {c : List (Cell Key)} (t : To.Good H c) {i : Nat} {k : Key} {x : Nat} (hi : c[i]? = some (some (k, x))) : Fd c k (i : Int) :=
  Or.inl ⟨i, rfl, lt_of_some hi, by rw [List.getD_eq_getElem?_getD, hi]; simp [isK], find_there t hi⟩
theorem fd_gone {c : List (Cell Key)} {k : Key} (hk : ∀ y, some (k, y) ∉ c) : Fd c k (-1) := Or.inr ⟨rfl, fun j _ => find_gone hk j⟩
theorem ck_is {k : Key} (hk : 1 ≤ k.length) (o : Cell Key) : (ck o == k) = isK k o := by
  cases o with
  | none => show ([] == k) = false; cases k with
    | nil => simp at hk
    | cons a r => rfl
  | some ky =>
    obtain ⟨k', y⟩ := ky
    show (k' == k) = decide (k' = k)
    rw [Bool.eq_iff_iff]; simp
theorem getD_lt {c : List (Cell Key)} {i : Nat} (hi : i < c.length) : c.getD i none = c[i] := by rw [List.getD_eq_getElem?_getD, List.getElem?_eq_getElem hi]; rfl
set_option maxRecDepth 100000 in
set_option maxHeartbeats 1000000 in
theorem find_any {c : List (Cell Key)} (t : Tb w c X p Y q) (k : Key) (hk : 1 ≤ k.length) (hn : c.length ≤ 100000000) {r : Int} (h : Fd c k r) :
    Calls Try.prog 33 #[.agg #[.int .u64 seed, .slice X c.length p, .slice Y c.length q], .string ⟨k.toArray⟩] w fun e w' => e = .returned (.int .i64 r) ∧ Below w.heap.size w w' := by
  have HT := Lib.hid t; have HF := Lib.hid h
  obtain ⟨w0, hw0⟩ : ∃ w0, w0 = w.alloc (.cells #[.int .u64 seed, .slice X c.length p, .slice Y c.length q] 31) := ⟨_, rfl⟩
  obtain ⟨b2, hb2⟩ : ∃ b2, b2 = w.heap.size := ⟨_, rfl⟩
  have b0 : Below w.heap.size w w0 := by rw [hw0]; exact bnew _ _
  have P2 : Hid (Blk w0 b2 #[.int .u64 seed, .slice X c.length p, .slice Y c.length q] 31) := by show Blk _ _ _ _; rw [hw0, hb2]; exact Blk.new _ _ _
  have HB := Lib.hid b0
  have HT0 := Lib.hid (t.below b0 (Nat.le_refl _))
  have l2 : b2 < w0.heap.size := P2.out.lt
  have g1 : (c.length : Int) ≤ 100000000 := by omega
  have hcap := t.ks.max
  clear t h b0
  obtain ⟨y0, y1, y2, _⟩ := P2.out.three
  go_enter Try.func33, Try.ntmps33
  go_wp2_with fail
  rw [← hw0, ← hb2]
  rw [← hb2]  at HB
  have HB2 := Lib.hid hb2
  clear hw0 hb2
  go_loopw [5] (fun i wr => ∃ K : Nat, K ≤ c.length ∧ i = .int .i64 (K : Int) ∧ wr = w0 ∧ Hid (∀ j, j < K → isK k (c.getD j none) = false)) (fun i _ => c.length - (intOf i).toNat)
  case atStart => exact ⟨0, Nat.zero_le _, rfl, rfl, fun j hj => by omega⟩
  case round =>
    obtain ⟨K, hK, rfl, rfl, hm⟩ := hrel
    by_cases hlt : K < c.length
    · have j1 : (K : Int) < (c.length : Int) := by omega
      obtain ⟨tb, to_, rfl, ltb, a0⟩ := HT0.out.ks.rd.at_ (kc_get hlt)
      have HG := Lib.hid (getD_lt hlt)
      by_cases he : isK k c[K] = true
      · have hbe : (ck c[K] == k) = true := by rw [ck_is hk]; exact he
        have HE := Lib.hid he
        clear he
        go_wp2_with fail
        go_ret
        exact ⟨retI (fd_yes HF.out hlt (by rw [HG.out]; exact HE.out) hm.out).symm, by rw [← HB2.out]; exact HB.out⟩
      · have he' : isK k c[K] = false := by cases e : isK k c[K]; rfl; exact absurd e he
        have hbe : (ck c[K] == k) = false := by rw [ck_is hk]; exact he'
        have HE := Lib.hid he'
        clear he he'
        go_wp2_with fail
        go_roundw
        case rel => exact ⟨K + 1, by omega, by go_num, trivial, fun j hj => by
          rcases Nat.lt_or_ge j K with h1 | h1
          · exact hm.out j h1
          · have : j = K := by omega
            subst this
            rw [HG.out]; exact HE.out⟩
        case measure => simp [intOf]; omega
    · obtain rfl : K = c.length := by omega
      have hnn : ¬ (c.length : Int) < c.length := by omega
      go_wp2_with fail
      go_ret
      exact ⟨retI (fd_no HF.out hm.out).symm, by rw [← HB2.out]; exact HB.out⟩
set_option maxRecDepth 100000 in
set_option maxHeartbeats 1000000 in
theorem tlen_any {c : List (Cell Key)} (t : Tb w c X p Y q) (hy : Kys c) (hn : c.length ≤ 100000000) :
    Calls Try.prog 32 #[.agg #[.int .u64 seed, .slice X c.length p, .slice Y c.length q]] w fun e w' => e = .returned (.int .i64 (cnt c : Int)) ∧ Below w.heap.size w w' := by
  have HT := Lib.hid t; have HY := Lib.hid hy
  obtain ⟨w0, hw0⟩ : ∃ w0, w0 = w.alloc (.cells #[.int .u64 seed, .slice X c.length p, .slice Y c.length q] 31) := ⟨_, rfl⟩
  obtain ⟨b2, hb2⟩ : ∃ b2, b2 = w.heap.size := ⟨_, rfl⟩
  have b0 : Below w.heap.size w w0 := by rw [hw0]; exact bnew _ _
  have P2 : Hid (Blk w0 b2 #[.int .u64 seed, .slice X c.length p, .slice Y c.length q] 31) := by show Blk _ _ _ _; rw [hw0, hb2]; exact Blk.new _ _ _
  have HB := Lib.hid b0
  have HT0 := Lib.hid (t.below b0 (Nat.le_refl _))
  have l2 : b2 < w0.heap.size := P2.out.lt
  have g1 : (c.length : Int) ≤ 100000000 := by omega
  have hcap := t.ks.max
  clear t hy b0
  obtain ⟨y0, y1, y2, _⟩ := P2.out.three
  go_enter Try.func32, Try.ntmps32
  go_wp2_with fail
  rw [← hw0, ← hb2]
  rw [← hb2]  at HB
  have HB2 := Lib.hid hb2
  clear hw0 hb2
  go_loopw [3, 4] (fun v i wr => ∃ K : Nat, K ≤ c.length ∧ v = .int .i64 (cnt (c.take K) : Int) ∧ i = .int .i64 (K : Int) ∧ wr = w0) (fun _ i _ => c.length - (intOf i).toNat)
  case atStart => exact ⟨0, Nat.zero_le _, rfl, rfl, rfl⟩
  case round =>
    obtain ⟨K, hK, rfl, rfl, rfl⟩ := hrel
    by_cases hlt : K < c.length
    · have j1 : (K : Int) < (c.length : Int) := by omega
      obtain ⟨tb, to_, rfl, ltb, a0⟩ := HT0.out.ks.rd.at_ (kc_get hlt)
      have hcl : cnt (c.take K) ≤ K := Nat.le_trans (cnt_le _) (by simp; omega)
      have HS : Hid (cnt (c.take (K + 1)) = cnt (c.take K) + if c[K].isSome then 1 else 0) := by
        show _ = _
        unfold cnt
        rw [List.take_succ_eq_append_getElem hlt, List.countP_append]
        simp [List.countP_cons]
      obtain ⟨m, hm⟩ : ∃ m, m = cnt (c.take K) := ⟨_, rfl⟩
      rw [← hm] at HS hcl ⊢
      clear hm
      cases e : c[K] with
      | none =>
        rw [e] at a0 HS
        have a0' : wr.cell? ⟨tb, to_ + K, none⟩ = some (.string ⟨#[]⟩) := a0
        clear a0
        go_wp2_with fail
        go_roundw
        case rel => exact ⟨K + 1, by omega, by rw [HS.out]; rfl, by go_num, trivial⟩
        case measure => simp [intOf]; omega
      | some ky =>
        obtain ⟨k', y⟩ := ky
        rw [e] at a0 HS
        have hk1 := (HY.out k' y (by rw [← e]; exact List.getElem_mem hlt)).1
        have hbe : List.isEmpty k' = false := by cases k' with
          | nil => simp at hk1
          | cons _ _ => rfl
        have a0' : wr.cell? ⟨tb, to_ + K, none⟩ = some (.string ⟨k'.toArray⟩) := a0
        clear a0 e
        go_wp2_with fail
        go_roundw
        case rel => exact ⟨K + 1, by omega, by rw [HS.out]; go_num, by go_num, trivial⟩
        case measure => simp [intOf]; omega
    · obtain rfl : K = c.length := by omega
      have hnn : ¬ (c.length : Int) < c.length := by omega
      go_wp2_with fail
      go_ret
      exact ⟨rfl, by rw [← HB2.out]; exact HB.out⟩
end
end Go.Proofs.Ythabnffmlgppdaa.Ta
