/- Proves that the laws KeyNames and KeySegments return true at every string. Conditions: the library's variable and the table of digits are laid; the strings have lengths of the form's own bound. -/
import Derived.Test.YtjieiakgikhofaaDoorKk
namespace Go.Proofs.YtjieiakgikhofaaDoor.Lnames
open Go.RowKit Km Kt Kv Kl Kc Ap Kx Ky Kr Ks Kf Kg Kj Ku Kz Ka Kk

def lawPost (w : World) : Ending → World → Prop := fun e w' => e = .returned (.bool true) ∧ Below w.heap.size w w'
theorem known_true (w W : World) (he : Env w) (h : After w W) : Calls Tryd.prog 10 #[] W (lawPost w) :=
  (known_any W (env_after he h)).mono fun _ _ hh => ⟨hh.1, (h.trans hh.2).below⟩
theorem rcommon_at (a b : ByteArray) (n : Nat) (w : World) (ha : a.size ≤ maxLen) (h : comS a b = n) :
    Calls Tryd.prog 20 #[.string a, .string b] w (valAfter w (.int .i64 n)) := by
  rw [← h]
  refine (rcommon_any a b w ha).mono fun _ w' hh => ⟨hh.1, ?_⟩
  obtain ⟨m, rfl⟩ := hh.2
  exact After.drewN _ _

set_option maxRecDepth 100000 in
set_option maxHeartbeats 1000000 in
theorem names_walk (a b : ByteArray) (w : World) (he : Env w) (ha : a.size ≤ maxLen) (hb : b.size ≤ maxLen) :
    Calls Tryd.prog 3 #[.string a, .string b] w (lawPost w) := by
  have HA := Lib.hid ha
  unfold maxLen at ha hb
  by_cases h1 : a.size ≤ 600
  · by_cases h2 : b.size ≤ 600
    · have HV : Hid (∀ W, Calls Tryd.prog 11 #[.string a] W fun e w' => e = .returned (.bool (validS a)) ∧ W = w') := fun W => valid_any a W HA.out
      obtain ⟨v1, hv1⟩ : ∃ v, v = validS a := ⟨_, rfl⟩
      obtain ⟨v2, hv2⟩ : ∃ v, v = validTagS a := ⟨_, rfl⟩
      obtain ⟨v3, hv3⟩ : ∃ v, v = validPreS a := ⟨_, rfl⟩
      obtain ⟨v4, hv4⟩ : ∃ v, v = hasS a b := ⟨_, rfl⟩
      obtain ⟨v5, hv5⟩ : ∃ v, v = comS a b := ⟨_, rfl⟩
      have H1 := Lib.hid hv1
      have H2 := Lib.hid hv2
      have H3 := Lib.hid hv3
      have H4 := Lib.hid hv4
      have H5 := Lib.hid hv5
      clear hv1 hv2 hv3 hv4 hv5 HV
      go_enter Tryd.func3, Tryd.ntmps3
      go_wp2_with fail
      refine (valid_any a _ HA.out).mono ?_
      rintro e w1 ⟨rfl, rfl⟩
      rw [← H1.out]
      go_wp2_with fail
      refine (rvalid_any a _ HA.out).mono ?_
      rintro e w1 ⟨rfl, rfl⟩
      rw [← H1.out]
      go_wp2_with fail
      refine (validTag_any a _ HA.out).mono ?_
      rintro e w1 ⟨rfl, rfl⟩
      rw [← H2.out]
      go_wp2_with fail
      refine (rvalidTag_any a _ HA.out).mono ?_
      rintro e w1 ⟨rfl, rfl⟩
      rw [← H2.out]
      go_wp2_with fail
      refine (validPre_any a _ HA.out).mono ?_
      rintro e w1 ⟨rfl, rfl⟩
      rw [← H3.out]
      go_wp2_with fail
      refine (rvalidPre_any a _ HA.out).mono ?_
      rintro e w1 ⟨rfl, rfl⟩
      rw [← H3.out]
      go_wp2_with fail
      refine (has_any a b _).mono ?_
      rintro e w1 ⟨rfl, rfl⟩
      rw [← H4.out]
      go_wp2_with fail
      refine (rhas_any a b _).mono ?_
      rintro e w1 ⟨rfl, rfl⟩
      rw [← H4.out]
      go_wp2_with fail
      refine (common_at a b v5 _ HA.out (by rw [H5.out])).mono ?_
      rintro e w1 ⟨rfl, a1⟩
      have A1 := Lib.hid a1; clear a1
      go_wp2_with fail
      refine (rcommon_at a b v5 _ HA.out H5.out.symm).mono ?_
      rintro e w2 ⟨rfl, a2⟩
      have A2 := Lib.hid (A1.out.trans a2); clear a2
      go_wp2_with fail
      refine (known_true w _ he A2.out).mono ?_
      rintro e w3 ⟨rfl, hb3⟩
      go_wp2_with fail
      go_ret
      exact ⟨rfl, hb3⟩
    · have h3 : 600 < b.size := by omega
      clear h2
      go_enter Tryd.func3, Tryd.ntmps3
      go_wp2_with fail
      refine (known_true w _ he (After.of (Below.refl _ _))).mono ?_
      rintro e w3 ⟨rfl, hb3⟩
      go_wp2_with fail
      go_ret
      exact ⟨rfl, hb3⟩
  · have h3 : 600 < a.size := by omega
    clear h1
    go_enter Tryd.func3, Tryd.ntmps3
    go_wp2_with fail
    refine (known_true w _ he (After.of (Below.refl _ _))).mono ?_
    rintro e w3 ⟨rfl, hb3⟩
    go_wp2_with fail
    go_ret
    exact ⟨rfl, hb3⟩

def lsRes (w : World) (l : List Bs) (e0 : Int) : Ending → World → Prop := fun e w' => ∃ A c, e = .returned (.tuple #[.slice A l.length c, .int .i64 e0]) ∧ l.length ≤ c ∧ Rd w' A l ∧ After w w'
def lRes (w : World) (l : List Bs) : Ending → World → Prop := fun e w' => ∃ A c, e = .returned (.slice A l.length c) ∧ l.length ≤ c ∧ Rd w' A l ∧ After w w'
theorem ls_of {w : World} {l : List Bs} {a : Int} {e : Ending} {w' : World} (hh : strsPost w l a e w') : lsRes w l a e w' := by
  obtain ⟨v, rfl, hown, hb⟩ := hh
  obtain ⟨A, c, rfl, hc⟩ := own_shape (own_row hown)
  exact ⟨A, c, rfl, hc, Rd.of_own (own_row hown), After.of hb⟩
theorem l_of {w : World} {l : List Bs} {e : Ending} {w' : World} (hh : rstrsPost w l e w') : lRes w l e w' := by
  obtain ⟨v, rfl, hown, hb⟩ := hh
  obtain ⟨A, c, rfl, hc⟩ := own_shape (own_row hown)
  exact ⟨A, c, rfl, hc, Rd.of_own (own_row hown), After.of hb⟩

set_option maxRecDepth 100000 in
set_option maxHeartbeats 1000000 in
theorem segments_walk (s : ByteArray) (w : World) (he : Env w) (hs : s.size ≤ maxLen) :
    Calls Tryd.prog 4 #[.string s] w (lawPost w) := by
  have HS := Lib.hid hs
  unfold maxLen at hs
  by_cases h1 : s.size ≤ 600
  · have hl1 : (segs s.data.toList).length ≤ 1000000 := by
      rw [segs_len]; have := List.count_le_length (a := (47 : UInt8)) (l := s.data.toList); rw [len_eq] at this; omega
    have hl2 : (foldersL s.data.toList).length ≤ 1000000 := by have := folders_len s.data.toList; omega
    have HSG := Lib.hid (fun W hE => (segments_any s W hE HS.out).mono fun _ _ hh => ls_of hh)
    have HFD := Lib.hid (fun W => (folders_any s W HS.out).mono fun _ _ hh => ls_of hh)
    have HV := Lib.hid (fun W => rvalid_any s W HS.out)
    by_cases hv : validS s = true
    · have e1 : segsR s = segs s.data.toList := if_pos hv
      have e2 : foldsR s = foldersL s.data.toList := if_pos hv
      have e3 : argE s = 0 := if_pos hv
      have HRS := Lib.hid (fun W => (rsegments_any s W h1).mono fun _ _ hh => l_of hh)
      have HRF := Lib.hid (fun W => (rfolders_any s W h1).mono fun _ _ hh => l_of hh)
      rw [e1, e3] at HSG
      rw [e2, e3] at HFD
      have HVV := Lib.hid hv
      clear hv e1 e2 e3
      obtain ⟨sl, hsl⟩ : ∃ x, x = segs s.data.toList := ⟨_, rfl⟩
      obtain ⟨fl, hfl⟩ : ∃ x, x = foldersL s.data.toList := ⟨_, rfl⟩
      rw [← hsl] at HSG HRS hl1
      rw [← hfl] at HFD HRF hl2
      clear hsl hfl
      go_enter Tryd.func4, Tryd.ntmps4
      go_wp2_with fail
      refine (HSG.out _ he).mono ?_
      rintro e w1 ⟨A1, c1, rfl, hc1, r1, a1⟩
      have B1 := Lib.hid a1
      have R1 := Lib.hid r1
      clear a1 r1
      go_wp2_with fail
      refine (HFD.out _).mono ?_
      rintro e w2 ⟨A2, c2, rfl, hc2, r2, a2⟩
      have B2 := Lib.hid (B1.out.trans a2)
      have R2 := Lib.hid r2
      have R12 := Lib.hid (a2.rd _ _ R1.out)
      clear a2 r2
      go_wp2_with fail
      refine (HV.out _).mono ?_
      rintro e w3 ⟨rfl, rfl⟩
      rw [HVV.out]
      go_wp2_with fail
      refine (HRS.out _).mono ?_
      rintro e w4 ⟨A3, c3, rfl, hc3, r3, a3⟩
      have B3 := Lib.hid (B2.out.trans a3)
      have R3 := Lib.hid r3
      have R13 := Lib.hid (a3.rd _ _ R12.out)
      have R23 := Lib.hid (a3.rd _ _ R2.out)
      clear a3 r3
      go_wp2_with fail
      refine (list_true A1 A3 sl.length sl.length c1 c3 sl sl 0 0 _ rfl rfl R13.out R3.out hl1 rfl rfl).mono ?_
      rintro e w5 ⟨rfl, a5⟩
      have B5 := Lib.hid (B3.out.trans a5)
      have R25 := Lib.hid (a5.rd _ _ R23.out)
      clear a5
      go_wp2_with fail
      refine (HRF.out _).mono ?_
      rintro e w6 ⟨A6, c6, rfl, hc6, r6, a6⟩
      have B6 := Lib.hid (B5.out.trans a6)
      have R6 := Lib.hid r6
      have R26 := Lib.hid (a6.rd _ _ R25.out)
      clear a6 r6
      go_wp2_with fail
      refine (list_true A2 A6 fl.length fl.length c2 c6 fl fl 0 0 _ rfl rfl R26.out R6.out hl2 rfl rfl).mono ?_
      rintro e w7 ⟨rfl, a7⟩
      have B7 := Lib.hid (B6.out.trans a7)
      clear a7
      go_wp2_with fail
      refine (known_true w _ he B7.out).mono ?_
      rintro e w8 ⟨rfl, hb8⟩
      go_wp2_with fail
      go_ret
      exact ⟨rfl, hb8⟩
    · have e1 : segsR s = [] := if_neg hv
      have e2 : foldsR s = [] := if_neg hv
      have e3 : argE s = 2 := if_neg hv
      rw [e1, e3] at HSG
      rw [e2, e3] at HFD
      have HVV : Hid (validS s = false) := by show _ = _; simpa using hv
      clear hv e1 e2 e3
      go_enter Tryd.func4, Tryd.ntmps4
      go_wp2_with fail
      refine (HSG.out _ he).mono ?_
      rintro e w1 ⟨A1, c1, rfl, hc1, r1, a1⟩
      have B1 := Lib.hid a1
      clear a1 r1
      go_wp2_with fail
      refine (HFD.out _).mono ?_
      rintro e w2 ⟨A2, c2, rfl, hc2, r2, a2⟩
      have B2 := Lib.hid (B1.out.trans a2)
      clear a2 r2
      go_wp2_with fail
      refine (HV.out _).mono ?_
      rintro e w3 ⟨rfl, rfl⟩
      rw [HVV.out]
      go_wp2_with fail
      refine (list_true A1 none 0 0 c1 0 [] [] 2 2 _ rfl rfl (Rd.nil _ _) (Rd.nil _ _) (by simp) rfl rfl).mono ?_
      rintro e w5 ⟨rfl, a5⟩
      have B5 := Lib.hid (B2.out.trans a5)
      clear a5
      go_wp2_with fail
      refine (list_true A2 none 0 0 c2 0 [] [] 2 2 _ rfl rfl (Rd.nil _ _) (Rd.nil _ _) (by simp) rfl rfl).mono ?_
      rintro e w7 ⟨rfl, a7⟩
      have B7 := Lib.hid (B5.out.trans a7)
      clear a7
      go_wp2_with fail
      refine (known_true w _ he B7.out).mono ?_
      rintro e w8 ⟨rfl, hb8⟩
      go_wp2_with fail
      go_ret
      exact ⟨rfl, hb8⟩
  · have h3 : 600 < s.size := by omega
    clear h1
    go_enter Tryd.func4, Tryd.ntmps4
    go_wp2_with fail
    refine (known_true w _ he (After.of (Below.refl _ _))).mono ?_
    rintro e w3 ⟨rfl, hb3⟩
    go_wp2_with fail
    go_ret
    exact ⟨rfl, hb3⟩
end Go.Proofs.YtjieiakgikhofaaDoor.Lnames
