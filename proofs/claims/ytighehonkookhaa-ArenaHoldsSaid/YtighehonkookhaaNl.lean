/- Proves what the specification's Refs and Same return, Same where the lists are one. Conditions: as each theorem names them. -/
import Derived.Test.YtighehonkookhaaNk
namespace Go.Proofs.Ytighehonkookhaa.Nl
open Go.RowKit Ap Mi Nm Nw Na Nb Rg Nc Nd Nx Nf Ng Nh Nj Nk

set_option maxRecDepth 100000 in
set_option maxHeartbeats 2000000 in
theorem rrefs_any {w : World} {m G : Nat} {s : St} {X Y Z : Option Addr} {c d e : Nat} (h : Spa w s X c Y d Z e) (hi : Inv m G s) (hm : m ≤ 1048576) :
    Calls Try.prog 28 #[.agg #[.int .i64 (m : Int), .slice X s.gens.length c, .slice Y s.tk.length d, .slice Z s.fr.length e]] w (refsPost w s) := by
  have hle := hi.le; have htl : s.tk.length = s.gens.length := hi.tl
  obtain ⟨w0, hw0⟩ : ∃ w0, w0 = w.alloc (.cells #[.int .i64 (m : Int), .slice X s.gens.length c, .slice Y s.tk.length d, .slice Z s.fr.length e] 31) := ⟨_, rfl⟩
  have b0 : Below w.heap.size w w0 := by rw [hw0]; exact bnew _ _
  have p0 : Blk w0 w.heap.size #[.int .i64 (m : Int), .slice X s.gens.length c, .slice Y s.tk.length d, .slice Z s.fr.length e] 31 := by rw [hw0]; exact Blk.new _ _ _
  have HB0 := Lib.hid b0; have P0 := Lib.hid p0; have HI := Lib.hid hi
  have HS := Lib.hid (h.below b0 (Nat.le_refl _))
  have hz0 : w.heap.size < w0.heap.size := p0.lt
  have HT := Lib.hid htl
  obtain ⟨N, hN⟩ : ∃ N, N = w0.heap.size := ⟨_, rfl⟩
  have HN := Lib.hid hN
  clear h hi htl b0 p0 hN
  unfold refsPost
  go_enter Try.func28, Try.ntmps28
  go_wp2_with fail
  rw [← hw0]
  clear hw0
  go_loopw [3, 4] (fun v i wr => ∃ (k : Nat) (A : Option Addr) (q : Nat) (L : List (Nat × Nat)), k ≤ s.gens.length ∧ i = .int .i64 (k : Int) ∧ v = .slice A L.length q ∧ Hid (L = refsFrom 0 (s.gens.take k) (s.tk.take k)) ∧ Mine N 2 wr A L.length q (rfL L) ∧ Below N w0 wr) (fun _ i _ => s.gens.length - (intOf i).toNat)
  case atStart => exact ⟨0, none, 0, [], Nat.zero_le _, rfl, rfl, rfl, Mine.nil _ _ _, Below.refl _ _⟩
  case round =>
    obtain ⟨k, A, q, L, hk, rfl, rfl, HLk, hm1, hb⟩ := hrel
    have HM := Lib.hid hm1; have HB := Lib.hid hb
    have hzr := hb.size
    have HSr := Lib.hid (HS.out.below hb (by have := HN.out; omega))
    have pr := P0.out.below hb (by have := HN.out; omega)
    obtain ⟨c0, c1, c2, c3, _⟩ := pr.four
    clear hm1 hb pr
    by_cases hlt : k < s.gens.length
    · have i1 : (k : Int) < (s.gens.length : Int) := by omega
      obtain ⟨gX, oX, gY, oY, rfl, rfl, lX, lY, e0, e1⟩ := Spa.slot HSr.out HI.out hlt
      have hkt : k < s.tk.length := by rw [HT.out]; exact hlt
      have i2 : (k : Int) < (s.tk.length : Int) := by omega
      have hst := refs_step HT.out hlt
      have hit : ist s (k : Int) = s.tk[k] := by rw [ist_nat, List.getElem?_eq_getElem hkt]; cases s.tk[k] <;> rfl
      have hge : genAt s (k : Int) = s.gens[k] := genAt_nat hlt
      have hLl : L.length ≤ k := by
        have h2 := refsFrom_len 0 (s.gens.take k) (s.tk.take k) (by simp [HT.out])
        rw [← HLk.out] at h2
        rw [h2]
        exact Nat.le_trans List.count_le_length (by rw [List.length_take]; omega)
      rw [hit] at e1
      cases htk : s.tk[k]
      · rw [htk] at e1 hst
        have HST := Lib.hid hst
        clear hst hit hge htk
        go_wp2_with fail
        go_roundw
        case rel => exact ⟨k + 1, A, q, L, by omega, by go_num, rfl, by show L = _; rw [HST.out, HLk.out]; simp, HM.out, HB.out⟩
        case measure => simp [intOf]; omega
      · rw [htk] at e1 hst
        obtain ⟨x, hx⟩ : ∃ x, x = s.gens[k] := ⟨_, rfl⟩
        rw [hge, ← hx] at e0
        rw [← hx] at hst
        have HST := Lib.hid hst
        clear hst hit hge htk hx
        go_wp2_with (at_builtin; (refine wpList_mine rfl _ _ elR _ rfl rfl (HM.out.below (bnew wr (.cells #[.int .i64 (k : Int), .int .i64 (x : Int)] 35)) (Nat.le_refl _)) _ rfl 1 _ (src_lit Try.underlying53 #[.int .i64 (k : Int), .int .i64 (x : Int)] 1 2 rfl (by simp [Value.oneCell'])) (by omega) (by omega) (by have := HN.out; simp; omega) ?_))
        intro A' q' w5 m5 g5 q5
        have HB5 : Hid (Below N w0 w5) := (HB.out.trans ((bnew wr (.cells #[.int .i64 (k : Int), .int .i64 (x : Int)] 35)).mono (by have := HN.out; omega))).trans ((only_row (F := fun j => N ≤ j) g5 (fun a ha => (HM.out.base ha).1)).below (fun _ h => h) (by have := HN.out; simp; omega))
        have HM5 := Lib.hid m5
        obtain ⟨L', hL'⟩ : ∃ L', L' = L ++ [(k, x)] := ⟨_, rfl⟩
        have hLn : L.length + 1 = L'.length := by rw [hL']; simp
        have HL' := Lib.hid hL'
        rw [hLn] at HM5 ⊢
        clear m5 g5 q5 hL' hLn
        go_wp2_with fail
        go_roundw
        case rel => exact ⟨k + 1, A', q', L', by omega, by go_num, rfl, by show L' = _; rw [HL'.out, HST.out, HLk.out]; simp, by have := HM5.out; rw [HL'.out, rfL_snoc]; rw [HL'.out] at this; exact this, HB5.out⟩
        case measure => simp [intOf]; omega
    · obtain rfl : k = s.gens.length := by omega
      have hnn : ¬ (s.gens.length : Int) < s.gens.length := by omega
      have hr := refs_all s HT.out
      rw [hr] at HLk
      have HLL := HLk
      clear hr hlt hk
      go_wp2_with fail
      go_ret
      have hLL := HLL.out
      subst hLL
      exact ⟨A, q, rfl, HM.out.mono (by have := HN.out; omega), HB0.out.trans (HB.out.mono (by have := HN.out; omega))⟩

set_option maxRecDepth 100000 in
set_option maxHeartbeats 2000000 in
theorem same_true {w : World} {A B : Option Addr} {c d : Nat} {l : List (Nat × Nat)} (ha : Rs w 2 A l.length c (rfL l)) (hb : Rs w 2 B l.length d (rfL l)) :
    Calls Try.prog 23 #[.slice A l.length c, .slice B l.length d] w (boolTo true w) := by
  have hc1 := ha.le; have hc2 := ha.max
  unfold maxLen at hc2
  have HA := Lib.hid ha; have HB := Lib.hid hb
  clear ha hb
  unfold boolTo
  go_enter Try.func23, Try.ntmps23
  go_wp2_with fail
  go_loopw [5] (fun i wr => ∃ k : Nat, k ≤ l.length ∧ i = .int .i64 (k : Int) ∧ ∃ n, wr = w.drewN n) (fun i _ => l.length - (intOf i).toNat)
  case atStart => exact ⟨0, Nat.zero_le _, rfl, 0, rfl⟩
  case round =>
    obtain ⟨k, hk, rfl, nd, rfl⟩ := hrel
    by_cases hlt : k < l.length
    · have i1 : (k : Int) < (l.length : Int) := by omega
      obtain ⟨e0, e1⟩ := rfL_get l k hlt
      obtain ⟨gA, oA, rfl, lA, a0⟩ := HA.out.rd.at_ e0
      obtain ⟨gA', oA', eA, _, a1⟩ := HA.out.rd.at_ e1
      injection eA with eA; injection eA with eA1 eA2; subst eA1; subst eA2
      obtain ⟨gB, oB, rfl, lB, b0⟩ := HB.out.rd.at_ e0
      obtain ⟨gB', oB', eB, _, b1⟩ := HB.out.rd.at_ e1
      injection eB with eB; injection eB with eB1 eB2; subst eB1; subst eB2
      rw [← Nat.add_assoc] at a1 b1
      obtain ⟨x, hx⟩ : ∃ x, x = l[k] := ⟨_, rfl⟩
      rw [← hx] at a0 a1 b0 b1
      clear e0 e1 hx
      go_wp2_with fail
      go_quiet (fail)
      go_wp2_with fail
      go_roundw
      case rel => exact ⟨k + 1, by omega, by go_num, _, rfl⟩
      case measure => simp [intOf]; omega
    · obtain rfl : k = l.length := by omega
      have hnn : ¬ (l.length : Int) < l.length := by omega
      go_wp2_with fail
      go_ret
      exact ⟨rfl, below_drewN (Below.refl _ _) _⟩
end Go.Proofs.Ytighehonkookhaa.Nl
