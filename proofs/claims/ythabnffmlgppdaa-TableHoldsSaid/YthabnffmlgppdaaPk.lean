/- Proves the law TableErrors at every argument. No condition but the bounds of its arguments. -/
import Derived.Test.YthabnffmlgppdaaPj
namespace Go.Proofs.Ythabnffmlgppdaa.Pk
open Go.RowKit Ap Mi Nw Rg Hm Tm Tn Ta Tb Pm Pa Pb Pc Pd Pe Pf Pg Ph Pn Pj
open Tf (okK okK_spec Gets Puts rok_any)
open Tg (Sets)
open Th (Dels)
open To (putT delT putN put_good set_good good_start)

abbrev kt : Key := [116, 104, 101, 114, 101]
theorem free8 {k : Key} : ∀ y, some (k, y) ∉ (List.replicate 8 none : List (Cell Key)) := fun y h => by have := List.eq_of_mem_replicate h; cases this
theorem key_of (s : ByteArray) : ∃ k : Key, s = ⟨k.toArray⟩ ∧ k.length = s.size := ⟨s.data.toList, by cases s; simp, by cases s; simp [ByteArray.size]⟩
set_option maxRecDepth 100000 in
set_option maxHeartbeats 4000000 in
theorem errors_walk (s : ByteArray) (n : Int) (W : World) (hs : s.size ≤ maxLen) (hn : n ≤ 9223372036854775807) : Calls Try.prog 6 #[.string s, .int .i64 n] W (boolTo true W) := by
  unfold boolTo
  obtain ⟨k, rfl, hkl⟩ := key_of s
  have hkm : k.length ≤ 9223372036854775807 := by rw [hkl]; unfold maxLen at hs; omega
  clear hs hkl
  obtain ⟨N, hN⟩ : ∃ N, N = W.heap.size := ⟨_, rfl⟩
  rw [← hN]
  by_cases hk3 : (300 : Int) < (k.length : Int)
  · go_enter Try.func6, Try.ntmps6
    go_wp2_with fail
    refine (known_any W).mono ?_
    rintro q w1 ⟨rfl, hb⟩
    have HB := Lib.hid hb
    clear hb
    go_wp2_with fail
    go_ret
    exact ⟨rfl, by rw [hN]; exact HB.out⟩
  · obtain ⟨u1, u2, u3, u4⟩ := put_good (good_start (hom_lt 1)) (k := kt) free8 3
    have HP0 : Hid (Puts 1 (List.replicate 8 none) kt 3 (putT (hom 1) (List.replicate 8 none) kt 3) 0) := Or.inr (Or.inr ⟨by decide, ⟨3, rfl, rfl⟩, free8, rfl⟩)
    obtain ⟨c1, hc1⟩ : ∃ c1, c1 = putT (hom 1) (List.replicate 8 none) kt 3 := ⟨_, rfl⟩
    rw [← hc1] at u1 u2 u3 u4 HP0
    rw [show putN (List.replicate 8 (none : Cell Key)).length (cnt (List.replicate 8 (none : Cell Key))) = 8 from rfl] at u2
    rw [cnt_none] at u3
    have HGd := Lib.hid u1; have HCn := Lib.hid u3
    have HMe : Hid (∀ o, some o ∈ c1 ↔ o = (kt, 3)) := fun o => by rw [u4 o]; exact ⟨fun h => h.elim id (fun h => by have := List.eq_of_mem_replicate h; cases this), Or.inl⟩
    have hl1 : c1.length ≤ 400000 := by omega
    have hk3' : k.length ≤ 300 := by omega
    clear u1 u2 u3 u4 hc1
    go_enter Try.func6, Try.ntmps6
    go_wp2_with fail
    refine (new_any 1 _ (by unfold U64; omega)).mono ?_
    rintro q w1 ⟨g, rfl, ht, hb⟩
    have K1 : Hid (Kn N W w1 g 1 (List.replicate 8 none)) := by show Kn _ _ _ _ _ _; rw [hN]; exact ⟨ht, hb, hb.size⟩
    clear ht hb hN
    go_wp2_with fail
    refine (K1.out.put kt (by decide) (by simp) (by omega) HP0.out).mono ?_
    rintro q w2 ⟨rfl, hk⟩
    have K2 := Lib.hid hk
    clear hk K1 HP0
    cases hv : okK k with
    | false =>
      go_wp2_with fail
      refine (K2.out.set k (by omega) hn (Or.inl ⟨Or.inl hv, rfl, rfl, rfl⟩)).mono ?_
      rintro q w3 ⟨rfl, hk⟩
      have K3 := Lib.hid hk
      clear hk K2
      go_wp2_with fail
      refine (rok_any k _ (by omega)).mono ?_
      rintro q w61 ⟨rfl, rfl⟩
      rw [hv]
      go_wp2_with fail
      refine (is_true 0 2).mono ?_
      rintro q w60 ⟨rfl, rfl⟩
      go_wp2_with fail
      refine (K3.out.gets k (by omega) (Or.inl ⟨hv, rfl, rfl⟩)).mono ?_
      rintro q w4 ⟨rfl, hk⟩
      have K4 := Lib.hid hk
      clear hk K3
      go_wp2_with fail
      refine (K4.out.put k (by omega) hl1 hn (Or.inl ⟨Or.inl hv, rfl, rfl⟩)).mono ?_
      rintro q w5 ⟨rfl, hk⟩
      have K5 := Lib.hid hk
      clear hk K4
      go_wp2_with fail
      refine (K5.out.dels k (by omega) hl1 (Or.inl ⟨rfl, rfl, Or.inl ⟨hv, rfl, rfl⟩, by omega⟩)).mono ?_
      rintro q w6 ⟨rfl, hk⟩
      have K6 := Lib.hid hk
      clear hk K5
      go_wp2_with fail
      refine (plen_any K6.out.t).mono ?_
      rintro q w62 ⟨rfl, rfl⟩
      rw [HCn.out]
      go_wp2_with fail
      refine (known_any _).mono ?_
      rintro q w63 ⟨rfl, hb⟩
      have KZ := Lib.hid (K6.out.below hb)
      clear hb
      go_wp2_with fail
      go_ret
      exact ⟨rfl, KZ.out.b⟩
    | true =>
      have hkb := okK_spec hv
      by_cases hn0 : n < 0
      · go_wp2_with fail
        refine (K2.out.set k (by omega) hn (Or.inl ⟨Or.inr hn0, rfl, rfl, rfl⟩)).mono ?_
        rintro q w3 ⟨rfl, hk⟩
        have K3 := Lib.hid hk
        clear hk K2
        go_wp2_with fail
        refine (rok_any k _ (by omega)).mono ?_
        rintro q w61 ⟨rfl, rfl⟩
        rw [hv]
        go_wp2_with fail
        refine (is_true 0 2).mono ?_
        rintro q w60 ⟨rfl, rfl⟩
        go_wp2_with fail
        refine (K3.out.put k (by omega) hl1 hn (Or.inl ⟨Or.inr hn0, rfl, rfl⟩)).mono ?_
        rintro q w4 ⟨rfl, hk⟩
        have K4 := Lib.hid hk
        clear hk K3
        go_wp2_with fail
        refine (plen_any K4.out.t).mono ?_
        rintro q w62 ⟨rfl, rfl⟩
        rw [HCn.out]
        go_wp2_with fail
        refine (known_any _).mono ?_
        rintro q w63 ⟨rfl, hb⟩
        have KZ := Lib.hid (K4.out.below hb)
        clear hb
        go_wp2_with fail
        go_ret
        exact ⟨rfl, KZ.out.b⟩
      · obtain ⟨x, rfl⟩ : ∃ x : Nat, n = (x : Int) := ⟨n.toNat, by omega⟩
        by_cases hkt : k = kt
        · have hkb2 : (k == kt) = true := by simpa using hkt
          obtain ⟨i, hi⟩ := List.mem_iff_getElem?.1 ((HMe.out (k, 3)).2 (by rw [hkt]))
          obtain ⟨v1, v2, v3, v4⟩ := set_good HGd.out hi x
          have HS : Hid (Sets c1 k (x : Int) (c1.set i (some (k, x))) 3 0) := Or.inr (Or.inr ⟨hv, ⟨i, x, 3, hi, rfl, rfl, rfl⟩, rfl⟩)
          have hj : (c1.set i (some (k, x)))[i]? = some (some (k, x)) := by rw [get_set c1 (lt_of_some hi)]; simp
          have HPx : Hid (Puts 1 (c1.set i (some (k, x))) k (x : Int) (c1.set i (some (k, x))) 11) := Or.inr (Or.inl ⟨hv, by omega, ⟨i, x, hj⟩, rfl, rfl⟩)
          have HGx : Hid (Gets (c1.set i (some (k, x))) k (x : Int) 0) := Or.inr (Or.inl ⟨hv, ⟨i, x, hj, rfl⟩, rfl⟩)
          obtain ⟨c2, hc2⟩ : ∃ c2, c2 = c1.set i (some (k, x)) := ⟨_, rfl⟩
          rw [← hc2] at HS HPx HGx v2
          have hl2 : c2.length ≤ 400000 := by omega
          clear v1 v2 v3 v4 hi hj hc2 hkt
          go_wp2_with fail
          refine (K2.out.set k (by omega) hn HS.out).mono ?_
          rintro q w3 ⟨rfl, hk⟩
          have K3 := Lib.hid hk
          clear hk K2
          go_wp2_with fail
          refine (rok_any k _ (by omega)).mono ?_
          rintro q w61 ⟨rfl, rfl⟩
          rw [hv]
          go_wp2_with fail
          refine (is_true 3 0).mono ?_
          rintro q w60 ⟨rfl, rfl⟩
          go_wp2_with fail
          refine (K3.out.put k (by omega) hl2 hn HPx.out).mono ?_
          rintro q w4 ⟨rfl, hk⟩
          have K4 := Lib.hid hk
          clear hk K3
          go_wp2_with fail
          refine (K4.out.gets k (by omega) HGx.out).mono ?_
          rintro q w5 ⟨rfl, hk⟩
          have K5 := Lib.hid hk
          clear hk K4
          go_wp2_with fail
          refine (known_any _).mono ?_
          rintro q w63 ⟨rfl, hb⟩
          have KZ := Lib.hid (K5.out.below hb)
          clear hb
          go_wp2_with fail
          go_ret
          exact ⟨rfl, KZ.out.b⟩
        · have hno : ∀ y, some (k, y) ∉ c1 := fun y hm => by
            have := (HMe.out _).1 hm
            simp only [Prod.mk.injEq] at this
            exact hkt this.1
          obtain ⟨v1, v2, v3, v4⟩ := put_good HGd.out hno x
          have HS : Hid (Sets c1 k (x : Int) c1 0 9) := Or.inr (Or.inl ⟨hv, by omega, hno, rfl, rfl, rfl⟩)
          have HPx : Hid (Puts 1 c1 k (x : Int) (putT (hom 1) c1 k x) 0) := Or.inr (Or.inr ⟨hv, ⟨x, rfl, rfl⟩, hno, rfl⟩)
          obtain ⟨i, hi⟩ := List.mem_iff_getElem?.1 ((v4 (k, x)).2 (Or.inl rfl))
          have HGx : Hid (Gets (putT (hom 1) c1 k x) k (x : Int) 0) := Or.inr (Or.inl ⟨hv, ⟨i, x, hi, rfl⟩, rfl⟩)
          obtain ⟨c2, hc2⟩ : ∃ c2, c2 = putT (hom 1) c1 k x := ⟨_, rfl⟩
          rw [← hc2] at HPx HGx v3
          have HC2 : Hid (cnt c2 = 2) := by show _ = _; rw [v3, HCn.out]
          have hkb2 : (k == kt) = false := by simpa using hkt
          have HKT := Lib.hid hkt
          clear v1 v2 v3 v4 hi hno hc2 hkt
          go_wp2_with fail
          refine (K2.out.set k (by omega) hn HS.out).mono ?_
          rintro q w3 ⟨rfl, hk⟩
          have K3 := Lib.hid hk
          clear hk K2
          go_wp2_with fail
          refine (rok_any k _ (by omega)).mono ?_
          rintro q w61 ⟨rfl, rfl⟩
          rw [hv]
          go_wp2_with fail
          refine (is_true 0 9).mono ?_
          rintro q w60 ⟨rfl, rfl⟩
          go_wp2_with fail
          refine (K3.out.put k (by omega) hl1 hn HPx.out).mono ?_
          rintro q w4 ⟨rfl, hk⟩
          have K4 := Lib.hid hk
          clear hk K3
          go_wp2_with fail
          refine (K4.out.gets k (by omega) HGx.out).mono ?_
          rintro q w5 ⟨rfl, hk⟩
          have K5 := Lib.hid hk
          clear hk K4
          go_wp2_with fail
          refine (plen_any K5.out.t).mono ?_
          rintro q w62 ⟨rfl, rfl⟩
          rw [HC2.out]
          go_wp2_with fail
          refine (known_any _).mono ?_
          rintro q w63 ⟨rfl, hb⟩
          have KZ := Lib.hid (K5.out.below hb)
          clear hb
          go_wp2_with fail
          go_ret
          exact ⟨rfl, KZ.out.b⟩
end Go.Proofs.Ythabnffmlgppdaa.Pk
