/- Proves what the method Names of a table returns: all names, in the order of their bytes. Conditions: as each theorem names them. -/
import Derived.Test.YtmhbfplpodikiaaInn
import Derived.Test.YtmhbfplpodikiaaAc
import Derived.Sort.OwnSorted
import Derived.Deep.RegionHeld3
namespace Go.Proofs.Ytmhbfplpodikiaa.Ino
open Go.RowKit Ap Mi Nw Rg Aa Ai Hm Ina Inb Inc Ind Ine Inf Ing Inh Ini Inj Ink Inl Inm Inn Ag
open Go.Sort
open Ac (strs strs_len strs_one strs_app)

/-! ### the order -/
def bs (l : List ByteArray) : List (List UInt8) := l.map fun x => x.data.toList
theorem insB_perm (x : ByteArray) (l : List ByteArray) : (insB x l).Perm (x :: l) := by
  induction l with
  | nil => exact List.Perm.refl _
  | cons y l ih =>
    unfold insB
    split
    · exact (List.Perm.cons y ih).trans (List.Perm.swap x y l)
    · exact List.Perm.refl _
theorem insB_sorted (x : ByteArray) {l : List ByteArray} (h : l.Pairwise fun a b => a.data.toList ≤ b.data.toList) : (insB x l).Pairwise fun a b => a.data.toList ≤ b.data.toList := by
  induction l with
  | nil => exact List.pairwise_singleton _ _
  | cons y l ih =>
    have h' := List.pairwise_cons.1 h
    unfold insB
    rw [bytesLess_eq, Lib.toList_data, Lib.toList_data]
    by_cases hlt : y.data.toList < x.data.toList
    · rw [if_pos (by simpa using hlt)]
      refine List.pairwise_cons.2 ⟨fun z hz => ?_, ih h'.2⟩
      rcases List.mem_cons.1 ((insB_perm x l).mem_iff.1 hz) with q | q
      · rw [q]; exact List.le_of_lt hlt
      · exact h'.1 z q
    · rw [if_neg (by simpa using hlt)]
      have hxy : x.data.toList ≤ y.data.toList := List.not_lt.1 hlt
      refine List.pairwise_cons.2 ⟨fun z hz => ?_, h⟩
      rcases List.mem_cons.1 hz with q | q
      · rw [q]; exact hxy
      · exact List.le_trans hxy (h'.1 z q)
theorem sortB_both (l : List ByteArray) : ∀ a : List ByteArray, (a.Pairwise fun a b => a.data.toList ≤ b.data.toList) → (l.foldl (fun a x => insB x a) a).Perm (l ++ a) ∧ (l.foldl (fun a x => insB x a) a).Pairwise fun a b => a.data.toList ≤ b.data.toList := by
  induction l with
  | nil => exact fun a h => ⟨List.Perm.refl _, h⟩
  | cons x l ih =>
    intro a h
    obtain ⟨h1, h2⟩ := ih (insB x a) (insB_sorted x h)
    refine ⟨h1.trans ?_, h2⟩
    exact ((insB_perm x a).append_left l).trans (List.perm_middle)
theorem sortB_merge (l : List ByteArray) : (bs l).mergeSort (fun x y => decide (x ≤ y)) = bs (sortB l) := by
  have tr : ∀ a b c : List UInt8, decide (a ≤ b) = true → decide (b ≤ c) = true → decide (a ≤ c) = true := fun a b c h1 h2 => by simp only [decide_eq_true_eq] at *; exact List.le_trans h1 h2
  have to : ∀ a b : List UInt8, (decide (a ≤ b) || decide (b ≤ a)) = true := fun a b => by simp only [Bool.or_eq_true, decide_eq_true_eq]; exact List.le_total a b
  obtain ⟨h1, h2⟩ := sortB_both l [] List.Pairwise.nil
  have hp := List.mergeSort_perm (bs l) (fun x y => decide (x ≤ y))
  have hs := List.pairwise_mergeSort tr to (bs l)
  have h1' : (sortB l).Perm l := by simpa [sortB] using h1
  refine List.Perm.eq_of_pairwise (le := fun x y => x ≤ y) (fun a b _ _ q1 q2 => List.le_antisymm q1 q2) (hs.imp (fun hab => by simpa using hab)) ?_ (hp.trans (h1'.map _).symm)
  unfold bs
  rw [List.pairwise_map]
  exact h2
/-! ### the row -/
theorem strs_bs (l : List ByteArray) : (bs l).map encStr = strs l := by
  unfold bs strs
  rw [List.map_map]
  refine List.map_congr_left (fun x _ => ?_)
  show Value.string ⟨x.data.toList.toArray⟩ = .string x
  cases x; rfl
theorem bs_len (l : List ByteArray) : (bs l).length = l.length := List.length_map _
/-- A row that reads as strings holds them. -/
theorem holds_row {B : Nat} {w : World} {b o c : Nat} {l : List ByteArray} (h : Mine B 1 w (some ⟨b, o, none⟩) l.length c (strs l)) : Holds encStr w b o (bs l).toArray := by
  intro j hj
  have hj' : j < l.length := by simpa [bs_len] using hj
  have hjb : j < (bs l).length := by rw [bs_len]; exact hj'
  have e : (strs l)[j]? = some (encStr (bs l)[j]) := by
    rw [← strs_bs, List.getElem?_map, List.getElem?_eq_getElem hjb]; rfl
  obtain ⟨c1, c2⟩ := mine_cell h e
  refine ⟨?_, c2⟩
  rw [c1, getElem!_pos _ j (by simpa using hjb)]
  rfl
/-- What the sorted row reads as. -/
theorem sorted_row {B : Nat} {w : World} {b o c n : Nat} {os : Array Obj} {l : List ByteArray} (h : Mine B 1 w (some ⟨b, o, none⟩) l.length c (strs l)) (hb : b < w.heap.size) : Rs (grow (putRow encStr (Sort.ahead w n) b o ((bs l).mergeSort fun x y => decide (x ≤ y)).toArray) os) 1 (some ⟨b, o, none⟩) l.length c (strs (sortB l)) := by
  have hlen : (strs (sortB l)).length = l.length := by rw [strs_len, sortB_len]
  have hbl : (bs (sortB l)).length = l.length := by rw [bs_len, sortB_len]
  rw [sortB_merge]
  refine ⟨fun _ => ⟨b, o, rfl, ?_, fun j hj => ?_⟩, by omega, h.le, h.max, h.non⟩
  · rw [size_grow, size_putRow]; exact Nat.lt_of_lt_of_le hb (Nat.le_add_right _ _)
  · have hjl : j < l.length := by omega
    rw [cell?_grow _ _ _ (by rw [size_putRow]; exact hb)]
    have := cell?_putRow encStr (Sort.ahead w n) b o (bs l).toArray (bs (sortB l)).toArray (fun j hj => holds_row h j hj) (by simp [bs_len, sortB_len]) j (by simpa [hbl] using hjl)
    rw [this, getElem!_pos _ j (by simpa [hbl] using hjl)]
    have e : (strs (sortB l))[j]? = some (encStr ((bs (sortB l))[j]'(by omega))) := by
      rw [← strs_bs, List.getElem?_map, List.getElem?_eq_getElem (by omega)]; rfl
    rw [List.getElem?_eq_getElem hj] at e
    injection e with e
    rw [e]; rfl
theorem only_sorted {F : Nat → Prop} {w : World} {b o n : Nat} {os : Array Obj} (hF : F b) (d : Array (List UInt8)) : Only F w (grow (putRow encStr (Sort.ahead w n) b o d) os) := by
  refine ⟨rfl, rfl, rfl, by rw [size_grow, size_putRow]; exact Nat.le_add_right _ _, fun k hk hne => ?_⟩
  rw [heap_grow_old _ _ (by rw [size_putRow]; exact hk)]
  have : b ≠ k := fun e => hne (e ▸ hF)
  simp [putRow, mapBlock, Sort.ahead, Array.getElem?_modify, this]
section
variable {F F' : Nat → Prop} {p : Nat → Nat} {w w' : World} {g : Nat} {m sd : Int} {H S R : Option Addr} {ch cs cf : Nat} {hd nx : List Int} {l : List Nr} {fr : List Nat}
/-- What Names leaves. -/
def namesPost (w : World) (l : List Nr) : Ending → World → Prop := fun q w' => ∃ A c, q = .returned (.slice A (namesL l).length c) ∧ Rs w' 1 A (namesL l).length c (strs (namesL l)) ∧ (∀ a, A = some a → w.heap.size ≤ a.block) ∧ Below w.heap.size w w'
set_option maxRecDepth 100000 in
set_option maxHeartbeats 2000000 in
theorem names_fr (h : St F w g m l) : Calls Try.prog 25 #[.pointer (some ⟨g, 0, none⟩)] w (namesPost w l) := by
  have hlen := h.len
  have lg := h.lt
  obtain ⟨p, sd, H, ch, hd, S, cs, nx, R, cf, h1, ht, hsd, hm1, hm2, hc⟩ := h
  have HU := Lib.hid (usable_any h1 hm1)
  have HC := Lib.hid (count_any h1 (frees_len l) (by omega))
  have HH := Lib.hid h1
  obtain ⟨N, hN⟩ : ∃ N, N = w.heap.size := ⟨_, rfl⟩
  obtain ⟨i0, hi1, hi2⟩ : ∃ i, Try.prog.info? 9 = some i ∧ (i.zero, i.size) = (some (.string ⟨#[]⟩), 1) := by
    have := Ac.elS.info
    rw [Option.map_eq_some_iff] at this
    exact this
  simp only [Prod.mk.injEq] at hi2
  obtain ⟨hz, hsz⟩ := hi2
  have hb := Ac.elS.small i0 hi1
  have HI1 := Lib.hid hi1; have HZ := Lib.hid hz; have HSZ := Lib.hid hsz
  have hcl := cnt_le l
  have hmul : i0.bytes * cnt l ≤ 1024 * 65536 := Nat.mul_le_mul hb (by omega)
  obtain ⟨C, hC⟩ : ∃ C, C = cnt l := ⟨_, rfl⟩
  rw [← hC] at HC hmul hcl
  have HCC := Lib.hid hC
  unfold namesPost
  clear h1 ht hsd hc hi1 hz hsz hb hC
  go_enter Try.func25, Try.ntmps25
  go_wp2_with fail
  refine HU.out.mono ?_
  rintro e w1 ⟨rfl, hw⟩
  rw [hw]
  clear hw HU
  go_wp2_with fail
  refine HC.out.mono ?_
  rintro e w1 ⟨rfl, nd, rfl⟩
  clear HC
  go_wp2_with ((refine wpList_make_own _ rfl _ _ _ rfl N 9 i0 _ 1 Ac.elS.sl HI1.out HZ.out HSZ.out .i64 .i64 _ C rfl rfl rfl (by omega) (by unfold maxLen; omega) (by rw [hN]; exact Nat.le_refl _) ?_))
  intro w2 o2 g2
  obtain ⟨A0, c0, e0, m0, _⟩ := Mine.of_own o2
  injection e0 with e0 _ e0'
  subst e0; subst e0'
  have b2 : Below N w w2 := by rw [hN]; exact (Below.refl w.heap.size w).grown ((grown_drewN w nd none).trans g2) (Nat.le_refl _) (fun k e => by cases e)
  have M0 : Hid (Mine N 1 w2 (some ⟨w.heap.size, 0, none⟩) 0 C []) := by rw [hN]; exact m0
  have HB2 := Lib.hid b2
  have c3 : w2.cell? ⟨g, 3, none⟩ = some (.slice S l.length cs) := (HH.out.below b2 (by omega)).blk.cell 3
  have HN := Lib.hid hN
  have lN : g < N := by omega
  clear o2 m0 g2 b2 hmul hN
  go_wp2_with fail
  go_loopw [3, 17] (fun v i wr => ∃ (k : Nat) (A : Option Addr) (c : Nat) (L : List ByteArray), k ≤ l.length ∧ i = .int .i64 (k : Int) ∧ v = .slice A L.length c ∧ Hid (L = liveL (l.take k)) ∧ Mine N 1 wr A L.length c (strs L) ∧ Below N w wr) (fun _ i _ => l.length - (intOf i).toNat)
  case atStart => exact ⟨0, _, _, [], Nat.zero_le _, rfl, rfl, rfl, M0.out, HB2.out⟩
  case round =>
    obtain ⟨k, A, c, L, hk, rfl, rfl, HLk, hm, hb⟩ := hrel
    have HM := Lib.hid hm; have HB := Lib.hid hb
    have HR := Lib.hid (HH.out.below hb (by have := HN.out; omega))
    have hzr := hb.size
    clear hm hb
    by_cases hlt : k < l.length
    · have i1 : (k : Int) < (l.length : Int) := by omega
      obtain ⟨sb, so, hS, hsl, _, _, e0, e1, e2, _⟩ := HR.out.slot hlt
      have hst := liveL_take hlt
      have hLl : L.length ≤ k := by
        have h2 := liveL_len (l.take k)
        have h3 := cnt_le (l.take k)
        rw [← HLk.out] at h2
        rw [List.length_take] at h3
        omega
      rw [nk_at hlt] at e0
      rw [getD_at hlt] at e1
      obtain ⟨X, hX⟩ : ∃ X, X = l[k].k := ⟨_, rfl⟩
      obtain ⟨r, hr⟩ : ∃ r, r = l[k].r := ⟨_, rfl⟩
      obtain ⟨y, hy⟩ : ∃ y, y = nx.getD k 0 := ⟨_, rfl⟩
      rw [← hX] at e0
      rw [← hr] at e1
      rw [← hy] at e2
      rw [← hX, ← hr] at hst
      rw [hS]
      clear hX hr hy hS
      by_cases hr0 : 0 < r
      · rw [if_pos hr0] at hst
        have HS := Lib.hid hst
        clear hst
        obtain ⟨u, hu⟩ : ∃ u, u = wr.alloc (.cells #[.string X, .int .i64 r, .int .i64 y] 78) := ⟨_, rfl⟩
        have hzu : u.heap.size = wr.heap.size + 1 := by rw [hu]; simp
        have hbu : Below wr.heap.size wr u := by rw [hu]; exact bnew _ _
        have hbv := hbu.trans ((bnew u (.cells #[.string X] 9)).mono (by omega))
        have HMV := Lib.hid (HM.out.below hbv (Nat.le_refl _))
        have HSR : Hid (Src Try.prog 1 61 (.slice (some ⟨wr.heap.size + 1, 0, none⟩) 1 1) 1 (strs [X]) (u.alloc (.cells #[.string X] 9))) := by
          have h := src_lit (w := u) (e' := 9) Try.underlying61 #[.string X] 1 1 rfl (by simp [Value.oneCell'])
          rw [hzu] at h
          exact h
        have HBV := Lib.hid (bstepN HB.out (by have := HN.out; omega) hbv)
        have hNv : N ≤ (u.alloc (.cells #[.string X] 9)).heap.size := by have := HN.out; simp; omega
        have HNV := Lib.hid hNv
        rw [hu] at HMV HSR HBV HNV
        clear hu hzu hbu hbv hNv c3
        go_wp2_with (at_builtin; (refine wpList_mine rfl _ _ Ac.elS _ rfl rfl HMV.out _ rfl 1 _ HSR.out (by omega) (by omega) HNV.out ?_))
        intro A' c' w5 m5 g5 q5
        have HB5 : Hid (Below N w w5) := HBV.out.trans ((only_row (F := fun j => N ≤ j) g5 (fun a ha => (HMV.out.base ha).1)).below (fun _ h => h) HNV.out)
        obtain ⟨L', hL'⟩ : ∃ L', L' = L ++ [X] := ⟨_, rfl⟩
        have hLn : L.length + 1 = L'.length := by rw [hL']; simp
        rw [← strs_app, ← hL', hLn] at m5
        have HM5 := Lib.hid m5
        have HL' := Lib.hid hL'
        rw [hLn]
        clear m5 g5 q5 hL' hLn
        go_wp2_with fail
        go_roundw
        case rel => exact ⟨k + 1, A', c', L', by omega, by go_num, rfl, by show L' = _; rw [HL'.out, HS.out, HLk.out], HM5.out, HB5.out⟩
        case measure => simp [intOf]; omega
      · rw [if_neg hr0, List.append_nil] at hst
        have HS := Lib.hid hst
        have HBV := Lib.hid (bstepN HB.out (by have := HN.out; omega) (bnew wr (.cells #[.string X, .int .i64 r, .int .i64 y] 78)))
        have HMV := Lib.hid (HM.out.below (bnew wr (.cells #[.string X, .int .i64 r, .int .i64 y] 78)) (Nat.le_refl _))
        clear hst c3
        go_wp2_with fail
        go_roundw
        case rel => exact ⟨k + 1, A, c, L, by omega, by go_num, rfl, by show L = _; rw [HS.out, HLk.out], HMV.out, HBV.out⟩
        case measure => simp [intOf]; omega
    · obtain rfl : k = l.length := by omega
      have hnn : ¬ (l.length : Int) < l.length := by omega
      rw [List.take_length] at HLk
      have hLen : L.length = (namesL l).length := by rw [HLk.out, namesL_len, liveL_len]
      have HLE := Lib.hid hLen
      have HNM : Hid (namesL l = sortB L) := by show _ = _; rw [HLk.out]; rfl
      rcases Nat.eq_zero_or_pos L.length with h0 | h0
      · have HSO := Lib.hid (Try.slices_Sort_string_none A c wr)
        have hLe : L = [] := List.eq_nil_of_length_eq_zero h0
        subst hLe
        clear hlt hk c3 hLen h0
        go_wp2_with fail
        refine HSO.out.mono ?_
        rintro e w6 ⟨rfl, hw⟩
        rw [hw]
        clear hw HSO
        go_wp2_with fail
        go_ret
        rw [HNM.out]
        refine ⟨A, c, rfl, Rs.mine HM.out, fun a ha => ?_, ?_⟩
        · rw [← HN.out]; exact (HM.out.base ha).1
        · have h := HB.out; rw [HN.out] at h; exact h
      · obtain ⟨b, o, hA, hbN, hbl⟩ := mine_place HM.out (by rw [strs_len]; exact h0)
        subst hA
        have hll : L.length ≤ 65536 := by rw [HLk.out, liveL_len]; have := cnt_le l; omega
        have hso := Try.slices_Sort_string b o c (bs L) wr (holds_row HM.out) hbl (by rw [bs_len]; omega)
        rw [bs_len] at hso
        have HSO := Lib.hid hso
        clear hlt hk c3 hLen hso
        go_wp2_with fail
        refine HSO.out.mono ?_
        rintro e w6 ⟨rfl, n6, os, hw⟩
        have HR6 : Hid (Rs w6 1 (some ⟨b, o, none⟩) L.length c (strs (sortB L))) := by show Rs _ _ _ _ _ _; rw [hw]; exact sorted_row HM.out hbl
        have HB6 : Hid (Below N w w6) := by
          show Below _ _ _
          rw [hw]
          exact HB.out.trans ((only_sorted (F := fun j => j = b) rfl _).below (fun j e => by omega) (by have := HN.out; omega))
        clear hw HSO
        go_wp2_with fail
        go_ret
        have h6 := HR6.out
        rw [← HNM.out, HLE.out] at h6
        refine ⟨_, c, by rw [HLE.out]; rfl, h6, fun a ha => ?_, ?_⟩
        · injection ha with ha; rw [← ha, ← HN.out]; exact hbN
        · have h := HB6.out; rw [HN.out] at h; exact h
end
end Go.Proofs.Ytmhbfplpodikiaa.Ino
