/- Proves what the law's few returns, and that InternNew returns true. Conditions: as each theorem names them. -/
import Derived.Test.YtmhbfplpodikiaaAk
namespace Go.Proofs.Ytmhbfplpodikiaa.Al
open Go.RowKit Ap Mi Nw Rg Aa Ab Ac Ad Ag Ah Ai Aj Ak

/-- A call of the law: what, a number, a name. -/
structure Ca where
  q : Int
  n : Int
  k : ByteArray
def caC (a : Ca) : List Value := [.int .i64 a.q, .int .i64 a.n, .string a.k]
def caL (l : List Ca) : List Value := l.flatMap caC
theorem caL_get : ∀ (l : List Ca) (k : Nat) (h : k < l.length), (caL l)[k * 3]? = some (.int .i64 l[k].q) ∧ (caL l)[k * 3 + 1]? = some (.int .i64 l[k].n) ∧ (caL l)[k * 3 + 2]? = some (.string l[k].k)
  | [], k, h => by simp at h
  | x :: l, 0, _ => ⟨rfl, rfl, rfl⟩
  | x :: l, k + 1, h => by
    obtain ⟨h1, h2, h3⟩ := caL_get l k (by simpa using h)
    have e : caL (x :: l) = caC x ++ caL l := by unfold caL; rw [List.flatMap_cons]
    have f : ∀ j, (caL (x :: l))[(k + 1) * 3 + j]? = (caL l)[k * 3 + j]? := fun j => by
      rw [e, List.getElem?_append_right (by show 3 ≤ _; omega)]
      show (caL l)[(k + 1) * 3 + j - 3]? = _
      rw [show (k + 1) * 3 + j - 3 = k * 3 + j by omega]
    exact ⟨(f 0).trans h1, (f 1).trans h2, (f 2).trans h3⟩
theorem ca_at {w : World} {A : Option Addr} {c : Nat} {l : List Ca} (h : Rs w 3 A l.length c (caL l)) {k : Nat} (hk : k < l.length) : ∃ b o, A = some ⟨b, o, none⟩ ∧ b < w.heap.size ∧ w.cell? ⟨b, o + k * 3, none⟩ = some (.int .i64 l[k].q) ∧ w.cell? ⟨b, o + k * 3 + 1, none⟩ = some (.int .i64 l[k].n) ∧ w.cell? ⟨b, o + k * 3 + 2, none⟩ = some (.string l[k].k) := by
  obtain ⟨h1, h2, h3⟩ := caL_get l k hk
  obtain ⟨b, o, e, hl, c1⟩ := h.rd.at_ h1
  obtain ⟨b', o', e', _, c2⟩ := h.rd.at_ h2
  obtain ⟨b'', o'', e'', _, c3⟩ := h.rd.at_ h3
  rw [e] at e' e''; injection e' with e'; injection e' with e1 e2
  injection e'' with e''; injection e'' with e3 e4
  subst e1; subst e2; subst e3; subst e4
  exact ⟨b, o, e, hl, c1, by rw [Nat.add_assoc]; exact c2, by rw [Nat.add_assoc]; exact c3⟩
def fewP (l : List Ca) : Prop := l.length ≤ 60 ∧ ∀ a ∈ l, a.k.size ≤ 100
open Classical in
set_option maxRecDepth 100000 in
set_option maxHeartbeats 4000000 in
theorem few_any {l : List Ca} {A : Option Addr} {c : Nat} {w : World} (h : Rs w 3 A l.length c (caL l)) :
    Calls Try.prog 12 #[.slice A l.length c] w (fun q w' => q = .returned (.bool (decide (fewP l))) ∧ w' = w) := by
  have HR := Lib.hid h
  have hcm := Rs.max h
  have hcl := Rs.le h
  unfold maxLen at hcm
  have HNO : Hid (¬ fewP l → decide (fewP l) = false) := fun h => decide_eq_false h
  have HYE : Hid (fewP l → decide (fewP l) = true) := fun h => decide_eq_true h
  obtain ⟨z, hz⟩ : ∃ z, z = decide (fewP l) := ⟨_, rfl⟩
  rw [← hz] at HNO HYE ⊢
  clear h hz
  go_enter Try.func12, Try.ntmps12
  go_wp2_with fail
  go_loopw [3] (fun i wr => ∃ K : Nat, K ≤ l.length ∧ K ≤ 61 ∧ i = .int .i64 (K : Int) ∧ Hid (∀ i (hi : i < l.length), i < K → l[i].k.size ≤ 100) ∧ wr = w) (fun i _ => l.length - (intOf i).toNat)
  case atStart => exact ⟨0, Nat.zero_le _, by omega, rfl, Lib.hid (fun i _ hi => by omega), rfl⟩
  case round =>
    obtain ⟨K, hK, hK4, rfl, HP, rfl⟩ := hrel
    by_cases hlt : K < l.length
    · have j3 : (K : Int) < (l.length : Int) := by omega
      by_cases h4 : K < 61
      · have j4 : (K : Int) < 61 := by omega
        obtain ⟨b, o, rfl, lb, a0, a1, a2⟩ := ca_at HR.out hlt
        obtain ⟨y, hy⟩ : ∃ y, y = l[K] := ⟨_, rfl⟩
        have hy2 := hy.symm
        rw [hy2] at a0 a1 a2
        have HY := Lib.hid hy
        clear hy hy2
        by_cases hg : y.k.size ≤ 100
        · have HP2 : Hid (∀ i (hi : i < l.length), i < K + 1 → l[i].k.size ≤ 100) := fun i hi hiK => by
            by_cases ei : i = K
            · subst ei; rw [← HY.out]; exact hg
            · exact HP.out i hi (by omega)
          have j5 : ¬ (100 : Int) < (y.k.size : Int) := by omega
          clear h4 hg
          go_wp2_with fail
          go_roundw
          case rel => exact ⟨K + 1, by omega, by omega, by go_num, HP2, trivial⟩
          case measure => simp [intOf]; omega
        · have HZ : z = false := HNO.out (fun hf => hg (by have := hf.2 _ (List.getElem_mem hlt); rw [← HY.out] at this; exact this))
          have j5 : (100 : Int) < (y.k.size : Int) := by omega
          subst HZ
          clear h4 hg
          go_wp2_with fail
          go_ret
          exact ⟨rfl, rfl⟩
      · obtain rfl : K = 61 := by omega
        have HZ : z = false := HNO.out (fun hf => by have := hf.1; omega)
        have j5 : ¬ (l.length : Int) ≤ 60 := by omega
        subst HZ
        clear h4
        go_wp2_with fail
        go_ret
        exact ⟨rfl, rfl⟩
    · obtain rfl : K = l.length := by omega
      have hnn : ¬ (l.length : Int) < (l.length : Int) := by omega
      clear hlt
      by_cases h60 : l.length ≤ 60
      · have HZ : z = true := HYE.out ⟨h60, fun a ha => by
          obtain ⟨i, hi, rfl⟩ := List.getElem_of_mem ha
          exact HP.out i hi hi⟩
        have j5 : (l.length : Int) ≤ 60 := by omega
        subst HZ
        clear h60
        go_wp2_with fail
        go_ret
        exact ⟨rfl, rfl⟩
      · have HZ : z = false := HNO.out (fun hf => h60 hf.1)
        have j5 : ¬ (l.length : Int) ≤ 60 := by omega
        subst HZ
        clear h60
        go_wp2_with fail
        go_ret
        exact ⟨rfl, rfl⟩
set_option maxRecDepth 100000 in
set_option maxHeartbeats 4000000 in
theorem new_walk (m sd : Int) (hsd : 0 ≤ sd ∧ sd < 18446744073709551616) (w : World) :
    Calls Try.prog 3 #[.int .i64 m, .int .u64 sd] w (boolTo true w) := by
  unfold boolTo
  by_cases hm : 1 ≤ m ∧ m ≤ 65536
  · have HN := Lib.hid (new_yes hm sd hsd w)
    unfold newPost at HN
    obtain ⟨h1, h2⟩ := hm
    have i1 : ¬ m < 1 := by omega
    have i2 : ¬ 65536 < m := by omega
    clear hsd
    go_enter Try.func3, Try.ntmps3
    go_wp2_with fail
    refine HN.out.mono ?_
    rintro q w1 ⟨g, F, rfl, hst, _, hb⟩
    have HB := Lib.hid hb
    have HI := Lib.hid (is_true hst (RT.nil (G := fun _ => False)) iv_nil (by simp) ⟨#[97]⟩ (by decide) 0)
    unfold tbV boolTo at HI
    clear hst hb
    go_wp2_with fail
    refine HI.out.mono ?_
    rintro q w2 ⟨rfl, hb⟩
    have HB2 := Lib.hid (bstep HB.out hb)
    clear hb HI
    go_wp2_with fail
    refine (known_any w2).mono ?_
    rintro q w3 ⟨rfl, hb⟩
    have HB3 := Lib.hid (bstep HB2.out hb)
    clear hb
    go_wp2_with fail
    go_ret
    exact ⟨rfl, HB3.out⟩
  · have HN := Lib.hid (new_no hm sd w)
    unfold vPost at HN
    clear hsd
    go_enter Try.func3, Try.ntmps3
    go_wp2_with fail
    refine HN.out.mono ?_
    rintro q w1 ⟨rfl, hb⟩
    have HB := Lib.hid hb
    clear hb HN
    by_cases h1 : m < 1
    case' neg => have h2 : 65536 < m := by omega
    all_goals
      clear hm
      go_wp2_with fail
      refine (known_any w1).mono ?_
      rintro q w3 ⟨rfl, hb⟩
      have HB3 := Lib.hid (bstep HB.out hb)
      clear hb
      go_wp2_with fail
      go_ret
      exact ⟨rfl, HB3.out⟩
end Go.Proofs.Ytmhbfplpodikiaa.Al
