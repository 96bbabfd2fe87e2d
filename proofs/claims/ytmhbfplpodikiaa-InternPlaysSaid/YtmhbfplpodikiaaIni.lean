/- Proves what the methods Find, Refs, Name, Len and Add of a table return, and what Add leaves. Conditions: as each theorem names them. -/
import Derived.Test.YtmhbfplpodikiaaInh
namespace Go.Proofs.Ytmhbfplpodikiaa.Ag
open Go.RowKit Ap Mi Nw Rg Aa Ai
def findE (l : List Nr) (k : ByteArray) : Int := if ¬ okN k then 2 else match fnd l k with | some _ => 0 | none => 9
def findV (l : List Nr) (k : ByteArray) : Int := if ¬ okN k then 0 else match fnd l k with | some i => (i : Int) | none => 0
def nameE (l : List Nr) (n : Int) : Int := if has l n then 0 else 9
def nameV (l : List Nr) (n : Int) : ByteArray := if has l n then (l.getD n.toNat zeroN).k else ⟨#[]⟩
def refsV (l : List Nr) (n : Int) : Int := if has l n then (l.getD n.toNat zeroN).r else 0
theorem find_no {l : List Nr} {k : ByteArray} (h : ¬ okN k) : findE l k = 2 ∧ findV l k = 0 := by unfold findE findV; rw [if_pos h, if_pos h]; exact ⟨rfl, rfl⟩
theorem find_none {l : List Nr} {k : ByteArray} (h : okN k) (hf : fnd l k = none) : findE l k = 9 ∧ findV l k = 0 := by unfold findE findV; rw [if_neg (by simp [h]), if_neg (by simp [h]), hf]; exact ⟨rfl, rfl⟩
theorem find_some {l : List Nr} {k : ByteArray} (h : okN k) {i : Nat} (hf : fnd l k = some i) : findE l k = 0 ∧ findV l k = (i : Int) := by unfold findE findV; rw [if_neg (by simp [h]), if_neg (by simp [h]), hf]; exact ⟨rfl, rfl⟩
end Go.Proofs.Ytmhbfplpodikiaa.Ag
namespace Go.Proofs.Ytmhbfplpodikiaa.Ini
open Go.RowKit Ap Mi Nw Rg Aa Ai Hm Ina Inb Inc Ind Ine Inf Ing Inh Ag

theorem ne_empty {k : ByteArray} (h : ¬ k.size = 0) : k.toList.isEmpty = false := by
  rw [Lib.toList_data]
  cases hd : k.data.toList with
  | nil => exact absurd (by show k.data.size = 0; rw [← Array.length_toList, hd]; rfl) h
  | cons x l => rfl
section
variable {F F' : Nat → Prop} {p : Nat → Nat} {w w' : World} {g : Nat} {m sd : Int} {H S R : Option Addr} {ch cs cf : Nat} {hd nx : List Int} {l : List Nr} {fr : List Nat}
/-- What a call leaves that reads. -/
def rPost (w : World) (v : Value) : Ending → World → Prop := fun e w' => e = .returned v ∧ ∃ q, w' = w.drewN q
set_option maxRecDepth 100000 in
set_option maxHeartbeats 1000000 in
theorem find_any (h : Lo F p w g m sd H ch hd S cs l nx R cf fr) (ht : Tb sd l ⟨hd, nx⟩) (hsd : U64 sd) (hm : 1 ≤ m) (k : ByteArray) (hk : k.size ≤ 1000000) :
    Calls Try.prog 26 #[.pointer (some ⟨g, 0, none⟩), .string k] w (rPost w (.tuple #[.int .i64 (findV l k), .int .i64 (findE l k)])) := by
  have HU := Lib.hid (usable_any h hm)
  have lg := h.lt
  unfold rPost
  by_cases h0 : k.size = 0
  · obtain ⟨e1, e2⟩ := find_no (l := l) (k := k) (fun q => by have := q.1; omega)
    rw [e1, e2]
    have hk0 : k = ⟨#[]⟩ := by cases k with | mk d => simp [ByteArray.size] at h0; rw [h0]
    subst hk0
    clear h ht hsd
    go_enter Try.func26, Try.ntmps26
    go_wp2_with fail
    refine HU.out.mono ?_
    rintro e w1 ⟨rfl, hw⟩
    subst hw
    go_wp2_with fail
    go_ret2
    exact ⟨rfl, 0, rfl⟩
  · have he := ne_empty h0
    have i0 : (1 : Int) ≤ (k.size : Int) := by omega
    by_cases h1 : 64 < k.size
    · obtain ⟨e1, e2⟩ := find_no (l := l) (k := k) (fun q => by have := q.2; omega)
      rw [e1, e2]
      have i1 : (64 : Int) < (k.size : Int) := by omega
      clear h ht hsd e1 e2
      go_enter Try.func26, Try.ntmps26
      go_wp2_with fail
      refine HU.out.mono ?_
      rintro e w1 ⟨rfl, hw⟩
      subst hw
      go_wp2_with fail
      go_ret2
      exact ⟨rfl, 0, rfl⟩
    · have hok : okN k := ⟨by omega, by omega⟩
      have i1 : ¬ (64 : Int) < (k.size : Int) := by omega
      obtain ⟨c, hc, hcm⟩ := ht.chain k
      obtain ⟨J, hJ⟩ := at_ex l k c
      have hb := (bkt_lt sd ht.pw k).1
      have HK := Lib.hid (link_any h hsd ht.pw k hk hc hJ)
      have hst := ht.stop hcm hJ.1 hJ.2.1 hJ.2.2
      have hpl := h.place (hc.ok hb hJ.1)
      rw [hc.ch J hJ.1] at hpl
      obtain ⟨a1, _, a3, _⟩ := hpl
      obtain ⟨a, ha⟩ : ∃ a, a = adr H S (plc (bkt sd hd.length k) c J) := ⟨_, rfl⟩
      rw [← ha] at HK a1 a3
      rcases hst with ⟨_, hf, hv⟩ | ⟨hj, hf, hv, hl⟩
      · obtain ⟨e1, e2⟩ := find_none hok hf
        rw [e1, e2]
        rw [hv] at a1
        clear h ht hsd e1 e2 hc hcm hJ hf hv ha hb hok
        go_enter Try.func26, Try.ntmps26
        go_wp2_with fail
        refine HU.out.mono ?_
        rintro e w1 ⟨rfl, hw⟩
        subst hw
        go_wp2_with fail
        refine HK.out.mono ?_
        rintro e w2 ⟨rfl, hq⟩
        have b1 : w2.cell? a = some (.int .i64 (-1)) := by obtain ⟨q, rfl⟩ := hq; exact a1
        have HQ := Lib.hid hq
        clear hq a1
        go_wp2_with fail
        go_ret2
        exact ⟨rfl, HQ.out⟩
      · obtain ⟨e1, e2⟩ := find_some hok hf
        rw [e1, e2]
        rw [hv] at a1
        obtain ⟨n, hn⟩ : ∃ n, n = c[J] := ⟨_, rfl⟩
        rw [← hn] at a1 ⊢
        have hnn : ((n : Int) == -1) = false := by rw [beq_eq_false_iff_ne]; omega
        clear h ht hsd e1 e2 hc hcm hJ hf hv ha hb hok hn hl
        go_enter Try.func26, Try.ntmps26
        go_wp2_with fail
        refine HU.out.mono ?_
        rintro e w1 ⟨rfl, hw⟩
        subst hw
        go_wp2_with fail
        refine HK.out.mono ?_
        rintro e w2 ⟨rfl, hq⟩
        have b1 : w2.cell? a = some (.int .i64 (n : Int)) := by obtain ⟨q, rfl⟩ := hq; exact a1
        have HQ := Lib.hid hq
        clear hq a1
        go_wp2_with fail
        go_ret2
        exact ⟨rfl, HQ.out⟩
/-- No name has a number. -/
theorem hasnt (hr : ∀ x ∈ l, 0 ≤ x.r ∧ x.r ≤ 2147483647) {n : Int} (h : ¬ has l n) : n < 0 ∨ (l.length : Int) ≤ n ∨ ∃ k : Nat, n = (k : Int) ∧ k < l.length ∧ (l.getD k zeroN).r = 0 := by
  by_cases h0 : n < 0
  · exact Or.inl h0
  · by_cases h1 : (l.length : Int) ≤ n
    · exact Or.inr (Or.inl h1)
    · have hk : n.toNat < l.length := by omega
      refine Or.inr (Or.inr ⟨n.toNat, by omega, hk, ?_⟩)
      have h2 := hr _ (List.getElem_mem hk)
      rw [← getD_at hk] at h2
      have h3 : ¬ 0 < (l.getD n.toNat zeroN).r := fun q => h ⟨by omega, by omega, q⟩
      omega
set_option maxRecDepth 100000 in
set_option maxHeartbeats 1000000 in
theorem refs_any (h : Lo F p w g m sd H ch hd S cs l nx R cf fr) (hl : l.length ≤ 1000000) (hr : ∀ x ∈ l, 0 ≤ x.r ∧ x.r ≤ 2147483647) (hm : 1 ≤ m) (n : Int) :
    Calls Try.prog 39 #[.pointer (some ⟨g, 0, none⟩), .int .i64 n] w fun e w' => e = .returned (.tuple #[.int .i64 (refsV l n), .int .i64 (nameE l n)]) ∧ w' = w := by
  have HU := Lib.hid (usable_any h hm)
  have lg := h.lt
  obtain ⟨_, _, _, c3, _⟩ := Blk.five h.blk
  by_cases hh : has l n
  · have e1 : refsV l n = (l.getD n.toNat zeroN).r := by unfold refsV; rw [if_pos hh]
    have e2 : nameE l n = 0 := by unfold nameE; rw [if_pos hh]
    rw [e1, e2]
    obtain ⟨h0, h1⟩ := has_lt hh
    obtain ⟨k, rfl⟩ : ∃ k : Nat, n = (k : Int) := ⟨n.toNat, by omega⟩
    have hk : k < l.length := by simpa using h1
    have hp : 0 < (l.getD k zeroN).r := by simpa using hh.2.2
    obtain ⟨sb, so, rfl, hsl, _, _, _, d1, _, _, _, _⟩ := h.slot hk
    have i1 : (k : Int) < (l.length : Int) := by omega
    obtain ⟨r, hre⟩ : ∃ r, r = (l.getD k zeroN).r := ⟨_, rfl⟩
    rw [Int.toNat_natCast, ← hre]
    rw [← hre] at d1 hp
    have hz : (r == 0) = false := by rw [beq_eq_false_iff_ne]; omega
    clear h hr hh e1 e2 h0 h1 hre
    go_enter Try.func39, Try.ntmps39
    go_wp2_with fail
    refine HU.out.mono ?_
    rintro e w1 ⟨rfl, hw⟩
    subst hw
    go_wp2_with fail
    go_ret2
    exact ⟨rfl, rfl⟩
  · have e1 : refsV l n = 0 := by unfold refsV; rw [if_neg hh]
    have e2 : nameE l n = 9 := by unfold nameE; rw [if_neg hh]
    rw [e1, e2]
    rcases hasnt hr hh with h1 | h1 | ⟨k, rfl, hk, h1⟩
    · clear h hr hh e1 e2
      go_enter Try.func39, Try.ntmps39
      go_wp2_with fail
      refine HU.out.mono ?_
      rintro e w1 ⟨rfl, hw⟩
      subst hw
      go_wp2_with fail
      go_ret2
      exact ⟨rfl, rfl⟩
    · have h2 : ¬ n < 0 := by omega
      clear h hr hh e1 e2
      go_enter Try.func39, Try.ntmps39
      go_wp2_with fail
      refine HU.out.mono ?_
      rintro e w1 ⟨rfl, hw⟩
      subst hw
      go_wp2_with fail
      go_ret2
      exact ⟨rfl, rfl⟩
    · obtain ⟨sb, so, rfl, hsl, _, _, _, d1, _, _, _, _⟩ := h.slot hk
      rw [h1] at d1
      have i1 : (k : Int) < (l.length : Int) := by omega
      clear h hr hh e1 e2 h1
      go_enter Try.func39, Try.ntmps39
      go_wp2_with fail
      refine HU.out.mono ?_
      rintro e w1 ⟨rfl, hw⟩
      subst hw
      go_wp2_with fail
      go_ret2
      exact ⟨rfl, rfl⟩
set_option maxRecDepth 100000 in
set_option maxHeartbeats 1000000 in
theorem name_any (h : Lo F p w g m sd H ch hd S cs l nx R cf fr) (hl : l.length ≤ 1000000) (hr : ∀ x ∈ l, 0 ≤ x.r ∧ x.r ≤ 2147483647) (hm : 1 ≤ m) (n : Int) :
    Calls Try.prog 41 #[.pointer (some ⟨g, 0, none⟩), .int .i64 n] w fun e w' => e = .returned (.tuple #[.string (nameV l n), .int .i64 (nameE l n)]) ∧ w' = w := by
  have HU := Lib.hid (refs_any h hl hr hm n)
  have lg := h.lt
  obtain ⟨_, _, _, c3, _⟩ := Blk.five h.blk
  by_cases hh : has l n
  · have e1 : nameV l n = (l.getD n.toNat zeroN).k := by unfold nameV; rw [if_pos hh]
    have e2 : nameE l n = 0 := by unfold nameE; rw [if_pos hh]
    rw [e2] at HU
    rw [e1, e2]
    obtain ⟨h0, h1⟩ := has_lt hh
    obtain ⟨k, rfl⟩ : ∃ k : Nat, n = (k : Int) := ⟨n.toNat, by omega⟩
    have hk : k < l.length := by simpa using h1
    obtain ⟨sb, so, rfl, hsl, _, _, d0, _⟩ := h.slot hk
    have i1 : (k : Int) < (l.length : Int) := by omega
    obtain ⟨x, hx⟩ : ∃ x, x = nk l k := ⟨_, rfl⟩
    rw [Int.toNat_natCast, show (l.getD k zeroN).k = x from hx.symm]
    rw [← hx] at d0
    obtain ⟨r, hre⟩ : ∃ r, r = refsV l (k : Int) := ⟨_, rfl⟩
    rw [← hre] at HU
    clear h hr hh e1 e2 h0 h1 hre hx
    go_enter Try.func41, Try.ntmps41
    go_wp2_with fail
    refine HU.out.mono ?_
    rintro e w1 ⟨rfl, hw⟩
    subst hw
    go_wp2_with fail
    go_ret2
    exact ⟨rfl, rfl⟩
  · have e1 : nameV l n = ⟨#[]⟩ := by unfold nameV; rw [if_neg hh]
    have e2 : nameE l n = 9 := by unfold nameE; rw [if_neg hh]
    rw [e2] at HU
    rw [e1, e2]
    obtain ⟨r, hre⟩ : ∃ r, r = refsV l n := ⟨_, rfl⟩
    rw [← hre] at HU
    clear h hr hh e1 e2 hre
    go_enter Try.func41, Try.ntmps41
    go_wp2_with fail
    refine HU.out.mono ?_
    rintro e w1 ⟨rfl, hw⟩
    subst hw
    go_wp2_with fail
    go_ret2
    exact ⟨rfl, rfl⟩
set_option maxRecDepth 100000 in
set_option maxHeartbeats 1000000 in
theorem len_any (h : Lo F p w g m sd H ch hd S cs l nx R cf (frees l)) (hl : l.length ≤ 1000000) (hm : 1 ≤ m) :
    Calls Try.prog 27 #[.pointer (some ⟨g, 0, none⟩)] w (rPost w (.tuple #[.int .i64 (cnt l : Int), .int .i64 m])) := by
  have HU := Lib.hid (usable_any h hm)
  have HC : Hid (∀ q, Calls Try.prog 42 #[.pointer (some ⟨g, 0, none⟩)] (w.drewN q) fun e w' => e = .returned (.int .i64 (cnt l : Int)) ∧ ∃ n, w' = (w.drewN q).drewN n) := fun q => count_any (h.drewN q) (frees_len l) hl
  have lg := h.lt
  obtain ⟨c0, _⟩ := Blk.five h.blk
  unfold rPost
  clear h
  go_enter Try.func27, Try.ntmps27
  go_wp2_with fail
  refine HU.out.mono ?_
  rintro e w1 ⟨rfl, hw⟩
  subst hw
  go_wp2_with fail
  go_quiet ((go_at_call 42; exact Calls.quiet_of (HC.out _)))
  go_wp2_with fail
  go_ret2
  exact ⟨rfl, _, rfl⟩
end
end Go.Proofs.Ytmhbfplpodikiaa.Ini
