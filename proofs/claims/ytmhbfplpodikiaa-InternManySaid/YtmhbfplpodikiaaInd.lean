/- Proves what the methods usable, count, head and link of a table return: the place at which a name's number stands, or its chain's end. Conditions: as each theorem names them. -/
import Derived.Test.YtmhbfplpodikiaaInc
import Derived.Test.YtmhbfplpodikiaaHw
import Derived.Test.YtmhbfplpodikiaaRg
import Derived.Lib.Strings
namespace Go.Proofs.Ytmhbfplpodikiaa.Ind
open Go.RowKit Ap Mi Nw Rg Aa Ai Hm Hw Ina Inb Inc

theorem dr_dr {w v : World} (h : ∃ q, v = w.drewN q) (n : Nat) : ∃ q, v.drewN n = w.drewN q := by
  obtain ⟨q, rfl⟩ := h
  exact ⟨q + n, World.drewN_drewN w q n⟩
theorem quiet_drew {w w' : World} {n : Nat} (h : w' = w.drewN n) : Below w.heap.size w w' := h ▸ ((Only.of_below (Below.refl w.heap.size w) (Nat.le_refl _) (fun _ => False)).drewN n).below (fun _ hf => hf.elim) (Nat.le_refl _)
section
variable {F F' : Nat → Prop} {p : Nat → Nat} {w w' : World} {g : Nat} {m sd : Int} {H S R : Option Addr} {ch cs cf : Nat} {hd nx : List Int} {l : List Nr} {fr : List Nat}
set_option maxRecDepth 100000 in
set_option maxHeartbeats 400000 in
theorem usable_any (h : Lo F p w g m sd H ch hd S cs l nx R cf fr) (hm : 1 ≤ m) :
    Calls Try.prog 35 #[.pointer (some ⟨g, 0, none⟩)] w fun e w' => e = .returned (.bool true) ∧ w' = w := by
  obtain ⟨c0, c1, c2, c3, c4⟩ := Blk.five h.blk
  have hlo : (0 : Int) < m := by omega
  clear h
  go_enter Try.func35, Try.ntmps35
  go_wp2_with fail
  go_ret
  exact ⟨retB (by simp), rfl⟩
set_option maxRecDepth 100000 in
set_option maxHeartbeats 400000 in
theorem count_any (h : Lo F p w g m sd H ch hd S cs l nx R cf fr) {n : Nat} (hn : fr.length + n = l.length) (hl : l.length ≤ 1000000) :
    Calls Try.prog 42 #[.pointer (some ⟨g, 0, none⟩)] w fun e w' => e = .returned (.int .i64 (n : Int)) ∧ ∃ q, w' = w.drewN q := by
  obtain ⟨c0, c1, c2, c3, c4⟩ := Blk.five h.blk
  have HE : Hid ((l.length : Int) - (fr.length : Int) = (n : Int)) := by show _ = _; omega
  have h1 : (l.length : Int) ≤ 1000000 := by omega
  have h2 : (fr.length : Int) ≤ (l.length : Int) := by omega
  clear h hn hl
  go_enter Try.func42, Try.ntmps42
  go_wp2_with fail
  go_quiet (fail)
  go_wp2_with fail
  go_ret
  exact ⟨retI HE.out, _, rfl⟩
set_option maxRecDepth 100000 in
set_option maxHeartbeats 1000000 in
theorem head_any (h : Lo F p w g m sd H ch hd S cs l nx R cf fr) (hsd : U64 sd) (hp : isPow (hd.length : Int) = true) (k : ByteArray) (hk : k.size ≤ 1000000) :
    Calls Try.prog 55 #[.pointer (some ⟨g, 0, none⟩), .string k] w fun e w' => e = .returned (.pointer (some (adr H S (.hd (bkt sd hd.length k))))) ∧ ∃ q, w' = w.drewN q := by
  obtain ⟨c0, c1, c2, c3, c4⟩ := Blk.five h.blk
  obtain ⟨hbd0, hbd1⟩ := isPow_bd _ hp
  obtain ⟨hb1, hb2⟩ := bkt_lt sd hp k
  obtain ⟨hb, ho, rfl, h1, _⟩ := h.head hb1
  have HS : Hid (∀ W, Calls Try.prog 74 #[.int .u64 sd, .string k] W fun e w' => e = .returned (.int .u64 (mixI (sumL sd k.data.toList))) ∧ w' = W) := fun W => (sum_any sd k W hsd (by unfold maxLen; omega)).mono fun _ _ h => ⟨h.1, h.2.symm⟩
  have HX : Hid (∀ W, Calls Try.prog 73 #[.int .u64 (mixI (sumL sd k.data.toList)), .int .i64 (hd.length : Int)] W fun e w' => e = .returned (.tuple #[.int .i64 (bkt sd hd.length k : Int), .int .i64 (idxE (hd.length : Int))]) ∧ w' = W) := fun W => (hindex_any (mixI (sumL sd k.data.toList)) (hd.length : Int) W (mix_bd _) (by omega) (by omega)).mono fun _ _ h => ⟨by rw [h.1, hb2], h.2.symm⟩
  obtain ⟨x, hx⟩ : ∃ x, x = mixI (sumL sd k.data.toList) := ⟨_, rfl⟩
  obtain ⟨y, hy⟩ : ∃ y, y = bkt sd hd.length k := ⟨_, rfl⟩
  obtain ⟨z, hz⟩ : ∃ z, z = idxE (hd.length : Int) := ⟨_, rfl⟩
  rw [← hx] at HS HX
  rw [← hy, ← hz] at HX
  rw [← hy] at hb1 ⊢
  have hlt : (y : Int) < (hd.length : Int) := by omega
  clear h hx hy hz hb2 hp hsd
  show Calls _ _ _ _ fun e w' => e = .returned (.pointer (some ⟨hb, ho + y, none⟩)) ∧ _
  go_enter Try.func55, Try.ntmps55
  go_wp2_with fail
  go_quiet ((first | (go_at_call 74; exact Calls.quiet_of_same (HS.out _)) | (go_at_call 73; exact Calls.quiet_of_same (HX.out _))))
  go_wp2_with fail
  go_ret
  exact ⟨rfl, _, rfl⟩
theorem adr_inj (h : Lo F p w g m sd H ch hd S cs l nx R cf fr) {q q' : Pl} (hq : (Sc.mk hd nx).ok q) (hq' : (Sc.mk hd nx).ok q') (e : adr H S q = adr H S q') : q = q' := by
  cases q with
  | hd b =>
    obtain ⟨hb', ho, rfl, _, _, h3, _⟩ := h.head (show b < hd.length from hq)
    cases q' with
    | hd b' => simp only [adr, Addr.mk.injEq] at e; rw [show b = b' by omega]
    | nx k =>
      have hk : k < l.length := by have h0 : k < nx.length := hq'; have := h.nl; omega
      obtain ⟨sb, so, rfl, _, _, h4, _⟩ := h.slot hk
      simp only [adr, Addr.mk.injEq] at e
      rw [e.1] at h3; omega
  | nx k =>
    have hk : k < l.length := by have h0 : k < nx.length := hq; have := h.nl; omega
    obtain ⟨sb, so, rfl, _, _, h4, _⟩ := h.slot hk
    cases q' with
    | hd b' =>
      obtain ⟨hb', ho, rfl, _, _, h3, _⟩ := h.head (show b' < hd.length from hq')
      simp only [adr, Addr.mk.injEq] at e
      rw [e.1] at h4; omega
    | nx k' => simp only [adr, Addr.mk.injEq] at e; rw [show k = k' by omega]
open Classical in
/-- How far a place is from the place J. -/
noncomputable def toJ (f : Nat → Value) (J : Nat) (v : Value) : Nat := if h : ∃ j, j ≤ J ∧ v = f j then J - h.choose else 0
theorem toJ_at {f : Nat → Value} {J j : Nat} (hi : ∀ i k, i ≤ J → k ≤ J → f i = f k → i = k) (hj : j ≤ J) : toJ f J (f j) = J - j := by
  have h : ∃ i, i ≤ J ∧ f j = f i := ⟨j, hj, rfl⟩
  unfold toJ
  rw [dif_pos h]
  obtain ⟨h1, h2⟩ := h.choose_spec
  have := hi _ _ hj h1 h2
  omega
/-- The place at which a name stands in a chain, or the chain's end. -/
def At (l : List Nr) (k : ByteArray) (c : List Nat) (J : Nat) : Prop := J ≤ c.length ∧ (∀ i (hi : i < c.length), i < J → nk l c[i] ≠ k) ∧ ∀ hj : J < c.length, nk l c[J] = k
theorem at_ex (l : List Nr) (k : ByteArray) : ∀ c : List Nat, ∃ J, At l k c J
  | [] => ⟨0, Nat.le_refl _, fun i hi => by simp at hi, fun hj => by simp at hj⟩
  | x :: c => by
    by_cases h : nk l x = k
    · exact ⟨0, Nat.zero_le _, fun i _ h0 => by omega, fun _ => h⟩
    · obtain ⟨J, h1, h2, h3⟩ := at_ex l k c
      refine ⟨J + 1, by simpa using h1, fun i hi hJ => ?_, fun hj => by simpa using h3 (by simpa using hj)⟩
      cases i with
      | zero => exact h
      | succ i => simpa using h2 i (by simpa using hi) (by omega)
theorem str_yes {a b : ByteArray} (h : a = b) : (a.toList == b.toList) = true := by rw [h]; simp
theorem str_no {a b : ByteArray} (h : ¬ a = b) : (a.toList == b.toList) = false := by
  rw [beq_eq_false_iff_ne]
  intro e
  rw [Lib.toList_data, Lib.toList_data] at e
  apply h
  cases a; cases b
  simp only [ByteArray.mk.injEq]
  exact Array.toList_inj.1 e
set_option maxRecDepth 100000 in
set_option maxHeartbeats 1000000 in
theorem link_any (h : Lo F p w g m sd H ch hd S cs l nx R cf fr) (hsd : U64 sd) (hp : isPow (hd.length : Int) = true) (k : ByteArray) (hk : k.size ≤ 1000000) {c : List Nat} (hc : Ch ⟨hd, nx⟩ (bkt sd hd.length k) c) {J : Nat} (hJ : At l k c J) :
    Calls Try.prog 44 #[.pointer (some ⟨g, 0, none⟩), .string k] w fun e w' => e = .returned (.pointer (some (adr H S (plc (bkt sd hd.length k) c J)))) ∧ ∃ q, w' = w.drewN q := by
  have HH := Lib.hid h
  have HD := Lib.hid (head_any h hsd hp k hk)
  have hb := (bkt_lt sd hp k).1
  obtain ⟨b, hbe⟩ : ∃ b, b = bkt sd hd.length k := ⟨_, rfl⟩
  rw [← hbe] at hc hb HD ⊢
  have hinj : ∀ i j, i ≤ J → j ≤ J → (Value.pointer (some (adr H S (plc b c i)))) = .pointer (some (adr H S (plc b c j))) → i = j := fun i j hi hj e => by
    injection e with e; injection e with e
    exact plc_inj hc.nd (by have := hJ.1; omega) (by have := hJ.1; omega) (adr_inj h (hc.ok hb (by have := hJ.1; omega)) (hc.ok hb (by have := hJ.1; omega)) e)
  have HC := Lib.hid hc; have HJ := Lib.hid hJ; have HI := Lib.hid hinj; have HB := Lib.hid hb
  obtain ⟨f, hf⟩ : ∃ f : Nat → Value, f = fun j => .pointer (some (adr H S (plc b c j))) := ⟨_, rfl⟩
  have hJ1 := hJ.1
  have lg := h.lt
  clear h hbe hc hJ hinj hb hp hsd
  go_enter Try.func44, Try.ntmps44
  go_wp2_with fail
  refine HD.out.mono ?_
  rintro e w1 ⟨rfl, hq⟩
  have HQ := Lib.hid hq
  clear hq HD
  go_wp2_with fail
  go_loopw [5] (fun v wr => ∃ j : Nat, j ≤ J ∧ v = .pointer (some (adr H S (plc b c j))) ∧ ∃ q, wr = w.drewN q) (fun v _ => toJ (fun j => .pointer (some (adr H S (plc b c j)))) J v)
  case atStart => exact ⟨0, Nat.zero_le _, rfl, HQ.out⟩
  case round =>
    obtain ⟨j, hj, rfl, q, hq⟩ := hrel
    have hjc : j ≤ c.length := by omega
    have HR : Hid (Lo F p wr g m sd H ch hd S cs l nx R cf fr) := by show Lo _ _ _ _ _ _ _ _ _ _ _ _ _ _ _ _; rw [hq]; exact HH.out.drewN q
    have HQr : Hid (∃ q, wr = w.drewN q) := ⟨q, hq⟩
    have hv := HC.out.ch j hjc
    obtain ⟨a1, a2, a3, _⟩ := HR.out.place (HC.out.ok HB.out hjc)
    rw [hv] at a1
    obtain ⟨c0, c1, c2, c3, c4⟩ := Blk.five HR.out.blk
    have hmj : toJ (fun j => .pointer (some (adr H S (plc b c j)))) J (.pointer (some (adr H S (plc b c j)))) = J - j := toJ_at HI.out hj
    have HMJ := Lib.hid hmj
    obtain ⟨a, ha⟩ : ∃ a, a = adr H S (plc b c j) := ⟨_, rfl⟩
    rw [← ha] at a1 a2 a3 ⊢
    have HA := Lib.hid ha
    clear hq hv hmj hf ha
    by_cases hjl : j < c.length
    · rw [val_at hjl] at a1
      have hnl : c[j] < l.length := by have h1 := HC.out.lt _ (List.getElem_mem hjl); have h2 := HR.out.nl; have h3 : c[j] < nx.length := h1; omega
      obtain ⟨n, hn⟩ : ∃ n, n = c[j] := ⟨_, rfl⟩
      rw [← hn] at a1 hnl
      have HN := Lib.hid hn
      clear hn
      obtain ⟨sb, so, hS, hsl, _, _, e0, e1, e2, f0, f1, f2⟩ := HR.out.slot hnl
      have i1 : (n : Int) < (l.length : Int) := by omega
      have i2 : ((n : Int) != -1) = true := by rw [bne_iff_ne]; omega
      have HS := Lib.hid hS
      rw [hS] at c3
      by_cases he : nk l n = k
      · have s1 := str_yes he
        have HE : Hid (j = J) := by
          show j = J
          rcases Nat.lt_or_ge j J with h1 | h1
          · exact absurd (by rw [← HN.out]; exact he) (HJ.out.2.1 j hjl h1)
          · omega
        clear he hS
        go_wp2_with fail
        go_quiet (fail)
        go_wp2_with fail
        go_ret
        refine ⟨?_, dr_dr HQr.out _⟩
        rw [HA.out, HE.out]; rfl
      · have s1 := str_no he
        have HE : Hid (j < J) := by
          show j < J
          rcases Nat.lt_or_ge j J with h1 | h1
          · exact h1
          · have h2 : j = J := by omega
            subst h2
            exact absurd (by rw [HN.out]; exact HJ.out.2.2 hjl) he
        have HX : Hid ((⟨sb, so + n * 3 + 2, none⟩ : Addr) = adr H S (plc b c (j + 1))) := by
          show _ = adr H S (.nx (c.getD j 0))
          rw [List.getD_eq_getElem?_getD, List.getElem?_eq_getElem hjl, HS.out]
          show _ = (⟨sb, so + c[j] * 3 + 2, none⟩ : Addr)
          rw [← HN.out]
        clear he hS
        go_wp2_with fail
        go_quiet (fail)
        go_wp2_with fail
        go_quiet (fail)
        go_wp2_with fail
        go_roundw
        case rel => exact ⟨j + 1, HE.out, by rw [HX.out], dr_dr (dr_dr HQr.out _) _⟩
        case measure =>
          rw [HX.out, HA.out, HMJ.out, toJ_at HI.out HE.out]
          have := HE.out; omega
    · have hje : j = c.length := by omega
      rw [val_end (by omega)] at a1
      have HE : Hid (j = J) := by have := hJ1; show j = J; omega
      clear hje
      go_wp2_with fail
      go_quiet (fail)
      go_wp2_with fail
      go_ret
      refine ⟨?_, dr_dr HQr.out _⟩
      rw [HA.out, HE.out]; rfl
end
end Go.Proofs.Ytmhbfplpodikiaa.Ind
