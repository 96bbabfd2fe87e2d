/- Proves what a string's conversion to bytes leaves, and what package request's text and list return, and the specification's list. Conditions: bounded strings. -/
import Derived.Test.YtefadkdngcbpiaaDoorQe
import Derived.Test.YtefadkdngcbpiaaDoorVab
import Derived.Test.YtefadkdngcbpiaaDoorVrb
import Derived.Lib.ConvBytes
namespace Go.Proofs.YtefadkdngcbpiaaDoor.Qn
open Go.RowKit Vm Ap Vw Va Vab Vr Vrb Gc Mi Mb Qm Qs Qe

/-- '[]byte(s)'. -/
theorem conv_of (l : Bs) (w : World) : ∃ A c w1, (convert 9 24 (.string ⟨l.toArray⟩)).run Tryd.prog w = .ok (.slice A l.length c) w1 ∧ Rb w1 A l ∧ (A = none → c = 0) ∧ Below w.heap.size w w1 := by
  have h := Lib.run_convert_string_bytes (P := Tryd.prog) w 9 24 5 ⟨l.toArray⟩ Tryd.underlying9 Tryd.underlying24 Tryd.underlying5
  have hsz : (⟨l.toArray⟩ : ByteArray).size = l.length := by show l.toArray.size = _; simp
  rw [hsz] at h
  refine ⟨_, _, _, h, fun _ => ⟨w.heap.size, 0, rfl, by rw [Lib.bytesWorld_size]; omega, fun j hj => ?_⟩, (fun e => by cases e), ?_⟩
  · rw [Nat.zero_add, Lib.bytesWorld_cell w 5 ⟨l.toArray⟩ j (by rw [hsz]; exact hj)]
    simp [List.getElem?_eq_getElem hj]
  · exact ⟨rfl, rfl, rfl, by rw [Lib.bytesWorld_size]; omega, fun k hk => Lib.bytesWorld_at_old w _ _ k hk⟩
theorem bytes_base {B : Nat} {w : World} {l : Bs} {e : Ending} {w' : World} (h : bytesPost w l e w') (hB : B ≤ w.heap.size) : ∃ v, e = .returned v ∧ Own B w' v l ∧ Below w.heap.size w w' := by
  obtain ⟨v, h1, h2, h3⟩ := h
  exact ⟨v, h1, own_base h2 hB, h3⟩

set_option maxRecDepth 100000 in
set_option maxHeartbeats 400000 in
theorem text_any (l : Bs) (w : World) (hl : l.length ≤ 1000000) :
    Calls Tryd.prog 50 #[.string ⟨l.toArray⟩] w (bytesPost w (encS l)) := by
  obtain ⟨A, c, w1, hcv, hrb, hnon, hb⟩ := conv_of l w
  have HP := Lib.hid (putB_any none A [] l 0 c w1 (Rb.nil _ _) (fun _ => rfl) (by simp) hrb hnon (by omega))
  have HB := Lib.hid hb
  clear hrb hnon hb
  go_enter Tryd.func50, Tryd.ntmps50
  go_wp2_with fail
  refine HP.out.mono ?_
  rintro e w2 ⟨v, rfl, h1, h2⟩
  have H1 := Lib.hid h1; have H2 := Lib.hid h2
  clear h1 h2 hcv
  go_wp2_with fail
  go_ret
  exact ⟨v, rfl, own_base H1.out HB.out.size, step0 HB.out H2.out⟩
theorem encL_take {ls : List Bs} {k : Nat} (h : k < ls.length) : (ls.take (k + 1)).flatMap encS = (ls.take k).flatMap encS ++ encS ls[k] := by
  rw [List.take_succ_eq_append_getElem h, List.flatMap_append]; simp
theorem encS_len (l : Bs) (h : l.length ≤ 1000000) : (encS l).length ≤ 1000010 := by
  unfold encS; rw [List.length_append]; have := enc_le l.length (by unfold big; omega); omega
theorem flat_len : ∀ (ls : List Bs), (∀ s ∈ ls, s.length ≤ 1000000) → (ls.flatMap encS).length ≤ ls.length * 1000010
  | [], _ => by simp
  | s :: ls, h => by
    rw [List.flatMap_cons, List.length_append, List.length_cons]
    have := flat_len ls (fun x hx => h x (by simp [hx]))
    have := encS_len s (h s (by simp))
    omega
theorem take_len (ls : List Bs) (k : Nat) (h : ∀ s ∈ ls, s.length ≤ 1000000) (hk : ls.length ≤ 40) : ((ls.take k).flatMap encS).length ≤ 40000400 := by
  have h1 := flat_len (ls.take k) (fun s hs => h s (List.mem_of_mem_take hs))
  have h2 : (ls.take k).length ≤ 40 := by rw [List.length_take]; omega
  omega
theorem encL_len (ls : List Bs) (h : ∀ s ∈ ls, s.length ≤ 1000000) (hk : ls.length ≤ 40) : (encL ls).length ≤ 40000410 := by
  unfold encL
  rw [List.length_append]
  have h1 := flat_len ls h
  have := enc_le ls.length (by unfold big; omega)
  omega

set_option maxRecDepth 100000 in
set_option maxHeartbeats 1000000 in
theorem list_any (A : Option Addr) (ls : List Bs) (c : Nat) (w : World) (hA : Rd w A ls) (hk : ls.length ≤ 40) (hx : ∀ s ∈ ls, s.length ≤ 1000000) :
    Calls Tryd.prog 51 #[.slice A ls.length c] w (bytesPost w (encL ls)) := by
  have HX := Lib.hid hx
  have HT := Lib.hid (fun k => take_len ls k hx hk)
  have hn : ls.length < big := by unfold big; omega
  have HE := Lib.hid (enc_le ls.length hn)
  have HP : Hid (Calls Tryd.prog 53 #[.slice none 0 0, .int .u64 (ls.length : Int)] w (bytesPost w (encN ls.length))) := by
    have := put_any none [] 0 ls.length w (Rb.nil _ _) (fun _ => rfl) (by simp) hn
    exact this
  have hi : (ls.length : Int) ≤ 40 := by omega
  clear hx hn
  go_enter Tryd.func51, Tryd.ntmps51
  go_wp2_with fail
  refine HP.out.mono ?_
  rintro e w1 ⟨v1, rfl, h1, b1⟩
  have H1 := Lib.hid h1; have B1 := Lib.hid b1
  clear h1 b1
  go_wp2_with fail
  go_loopw [3, 5, 12] (fun u _ i wr => ∃ k : Nat, k ≤ ls.length ∧ i = .int .i64 (k : Int) ∧ Own w.heap.size wr u (encN ls.length ++ (ls.take k).flatMap encS) ∧ Below w.heap.size w wr) (fun _ _ i _ => ls.length - (intOf i).toNat)
  case atStart => exact ⟨0, Nat.zero_le _, rfl, by simpa using H1.out, B1.out⟩
  case round =>
    obtain ⟨k, hkl, rfl, hown, hbw⟩ := hrel
    obtain ⟨wo, rfl⟩ : ∃ wo : World, wo = wr := ⟨_, rfl⟩
    have HB := Lib.hid hbw
    have hz := hbw.size
    obtain ⟨U, uc, sh⟩ := own_shape hown
    obtain rfl := sh.val
    have SH := Lib.hid sh
    have HO := Lib.hid hown
    have hle := HT.out k
    have he := HE.out
    have hll : (encN ls.length ++ (ls.take k).flatMap encS).length ≤ 100000000 := by rw [List.length_append]; omega
    clear sh hown
    by_cases hlt : k < ls.length
    · obtain ⟨b, o, rfl, hb, hc⟩ := (hA.below hbw (Nat.le_refl _)).at_ hlt
      have i1 : (k : Int) < ls.length := by omega
      have hxl := HX.out _ (List.getElem_mem hlt)
      have HF := Lib.hid (encL_take hlt)
      obtain ⟨s, hs⟩ : ∃ s, s = ls[k] := ⟨_, rfl⟩
      rw [← hs] at hc hxl HF
      obtain ⟨C, d, w2, hcv, hrb, hnon, hb2⟩ := conv_of s wo
      obtain ⟨pre, hpre⟩ : ∃ pre, pre = encN ls.length ++ (ls.take k).flatMap encS := ⟨_, rfl⟩
      rw [← hpre] at SH HO hll ⊢
      have HN : Hid (encN ls.length ++ (ls.take (k + 1)).flatMap encS = pre ++ encS s) := by show _ = _; rw [HF.out, hpre, List.append_assoc]
      have HPB := Lib.hid (putB_any U C pre s uc d w2 (SH.out.rd.below hb2 (Nat.le_refl _)) SH.out.non hll hrb hnon (by omega))
      have HB2 := Lib.hid (HB.out.trans (hb2.mono hz))
      have hz2 := HB2.out.size
      clear hs hpre hrb hnon hb2 hbw
      go_wp2_with fail
      refine HPB.out.mono ?_
      rintro e w3 ⟨v3, rfl, h3, b3⟩
      have H3 : Hid (Own w.heap.size w3 v3 (encN ls.length ++ (ls.take (k + 1)).flatMap encS)) := by show Own _ _ _ _; rw [HN.out]; exact own_base h3 hz2
      have B3 := Lib.hid (step0 HB2.out b3)
      clear h3 b3 hcv hc
      go_wp2_with fail
      go_roundw
      case rel => exact ⟨k + 1, by omega, by go_num, H3.out, B3.out⟩
      case measure => simp [intOf]; omega
    · obtain rfl : k = ls.length := by omega
      have hnn : ¬ (ls.length : Int) < ls.length := by omega
      have HL : Hid (encN ls.length ++ (ls.take ls.length).flatMap encS = encL ls) := by show _ = _; rw [List.take_length]; rfl
      rw [HL.out] at HO ⊢
      clear hbw
      go_wp2_with fail
      go_ret
      exact ⟨_, rfl, HO.out, HB.out⟩
end Go.Proofs.YtefadkdngcbpiaaDoor.Qn
