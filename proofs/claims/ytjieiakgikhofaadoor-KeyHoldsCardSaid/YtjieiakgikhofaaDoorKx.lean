/- Proves what Text and Parse return, over the translated program: each byte's text is appended to the call's own row, which becomes a string at the end. Conditions: the table of digits is laid; lengths below the form's own bound. -/
import Derived.Test.YtjieiakgikhofaaDoorKl
import Derived.Test.YtjieiakgikhofaaDoorAp
import Derived.Deep.RegionLaw
import Derived.Laws.IdiomStrings
import Derived.Lib.BufferRead
namespace Go.Proofs.YtjieiakgikhofaaDoor.Kx
open Go.RowKit Km Kt Kv Kl Ap

def byteV (c : UInt8) : Value := .int .u8 (c.toNat : Int)
theorem elB : El Tryd.prog 48 5 (.int .u8 0) where
  sl := Tryd.underlying48
  info := by kernel_rfl
  small := by
    have h : (Tryd.prog.info? 5).map (·.bytes) = some 1 := by kernel_rfl
    intro i hi; rw [hi] at h; simp at h; omega
  one := rfl
theorem and_fin : ∀ n : Fin 256, bits .and .u8 (n.val : Int) 15 = (n.val : Int) % 16 := by decide +kernel
theorem and_eq (c : UInt8) : bits .and .u8 (c.toNat : Int) 15 = (c.toNat : Int) % 16 := and_fin ⟨c.toNat, c.toNat_lt⟩
def writePost (w : World) (B : Nat) (v : Value) (xs : List Value) (c : UInt8) : Ending → World → Prop := fun e w' =>
  ∃ v', e = .returned v' ∧ w'.ownsRow B 5 1 v' (xs.length + (encC c).length) (xs ++ (encC c).map byteV) ∧ w.grownBy w' v.ownBlock

set_option maxRecDepth 100000 in
set_option maxHeartbeats 400000 in
theorem write_plain (B : Nat) (v : Value) (xs : List Value) (c : UInt8) (w : World) (hp : plainC c = true) (hown : w.ownsRow B 5 1 v xs.length xs) (hB : B ≤ w.heap.size) (hn : xs.length ≤ 100000) :
    Calls Tryd.prog 42 #[v, .int .u8 (c.toNat : Int)] w (writePost w B v xs c) := by
  have HE : Hid (encC c = [c]) := by show _ = _; unfold encC; rw [if_pos hp]
  have HP : Hid (plainI c.toNat = true) := hp
  clear hp
  have HO := Lib.hid hown; clear hown
  have c0 := c.toNat_lt
  go_enter Tryd.func42, Tryd.ntmps42
  go_wp2_with fail
  refine (plain_any _ _ (by omega) (by omega)).mono ?_
  rintro e w' ⟨rfl, rfl⟩
  rw [HP.out]
  go_wp2_with (refine wpList_app rfl _ _ elB rfl rfl HO.out #[byteV c] rfl (by simp [byteV]; rfl) (by omega) (by simp) hB ?_)
  intro v' w' h1 h2
  have H1 := Lib.hid h1; clear h1
  have H2 := Lib.hid h2; clear h2
  go_wp2_with fail
  go_ret
  exact ⟨v', rfl, by rw [HE.out]; exact H1.out, H2.out⟩

set_option maxRecDepth 100000 in
set_option maxHeartbeats 400000 in
theorem write_esc (B : Nat) (v : Value) (xs : List Value) (c : UInt8) (w : World) (he : Env w) (hp : plainC c = false) (hown : w.ownsRow B 5 1 v xs.length xs) (hB : B ≤ w.heap.size) (hn : xs.length ≤ 100000) :
    Calls Tryd.prog 42 #[v, .int .u8 (c.toNat : Int)] w (writePost w B v xs c) := by
  have HE : Hid (encC c = [37, digU (c.toNat / 16), digU (c.toNat % 16)]) := by show _ = _; unfold encC; rw [hp]; rfl
  have HP : Hid (plainI c.toNat = false) := hp
  clear hp
  have HO := Lib.hid hown; clear hown
  have c0 := c.toNat_lt
  go_enter Tryd.func42, Tryd.ntmps42
  go_wp2_with fail
  refine (plain_any _ _ (by omega) (by omega)).mono ?_
  rintro e w' ⟨rfl, rfl⟩
  rw [HP.out]
  have d1 : w.cell? ⟨0, ((c.toNat : Int) / 16).toNat, none⟩ = some (.int .u8 (digI ((c.toNat : Int) / 16))) := by
    have := he.dig (c.toNat / 16) (by omega)
    rw [show ((c.toNat : Int) / 16).toNat = c.toNat / 16 from by omega, this]; rfl
  have d2 : w.cell? ⟨0, ((c.toNat : Int) % 16).toNat, none⟩ = some (.int .u8 (digI ((c.toNat : Int) % 16))) := by
    have := he.dig (c.toNat % 16) (by omega)
    rw [show ((c.toNat : Int) % 16).toNat = c.toNat % 16 from by omega, this]; rfl
  have g1 : (c.toNat : Int) / 16 < 16 := by omega
  have g2 : (c.toNat : Int) % 16 < 16 := by omega
  have g3 : 0 ≤ (c.toNat : Int) / 16 := by omega
  have g4 : 0 ≤ (c.toNat : Int) % 16 := by omega
  have ea := and_eq c
  go_wp2_with fail
  go_region_law ((refine step_app (v := v) rfl _ _ elB rfl rfl (own_drew HO.out) #[.int .u8 37, .int .u8 (digI ((c.toNat : Int) / 16)), .int .u8 (digI ((c.toNat : Int) % 16))] rfl (by simp; exact ⟨rfl, rfl, rfl⟩) (by omega) (by simp) (by simp) hB ?_; intro v' w' h1 h2))
  all_goals
    have H1 := Lib.hid h1; clear h1
    have H2 := Lib.hid (grown_trans (grown_drew w _) h2); clear h2
    clear ea g1 g2 g3 g4 d1 d2
    go_wp2_with fail
    go_ret
    refine ⟨v', rfl, ?_, H2.out⟩
    rw [HE.out]
    have e1 := digU_nat (c.toNat / 16) (by omega)
    have e2 := digU_nat (c.toNat % 16) (by omega)
    have : [37, digU (c.toNat / 16), digU (c.toNat % 16)].map byteV = [Value.int .u8 37, .int .u8 (digI ((c.toNat : Int) / 16)), .int .u8 (digI ((c.toNat : Int) % 16))] := by
      simp only [List.map_cons, List.map_nil, byteV, e1, e2]; rfl
    rw [this]
    exact H1.out

theorem write_any (B : Nat) (v : Value) (xs : List Value) (c : UInt8) (w : World) (he : Env w) (hown : w.ownsRow B 5 1 v xs.length xs) (hB : B ≤ w.heap.size) (hn : xs.length ≤ 100000) :
    Calls Tryd.prog 42 #[v, .int .u8 (c.toNat : Int)] w (writePost w B v xs c) := by
  by_cases hp : plainC c = true
  · exact write_plain B v xs c w hp hown hB hn
  · exact write_esc B v xs c w he (by simpa using hp) hown hB hn

/-! ### Text -/
theorem conv_own {B : Nat} {v : Value} {l : List UInt8} {w : World} (hown : w.ownsRow B 5 1 v l.length (l.map byteV)) :
    (convert 48 9 v).run Tryd.prog w = .ok (.string ⟨l.toArray⟩) w := by
  rcases hown.2 with ⟨rfl, h0⟩ | ⟨g, cap, cur, rfl, _, hg, _, _, _, ht⟩
  · obtain rfl : l = [] := List.eq_nil_of_length_eq_zero h0
    exact Lib.run_convert_nil_bytes w _ _ 5 0 Tryd.underlying48 Tryd.underlying5 Tryd.underlying9
  · refine run_convert_bytes_back w _ _ 5 ⟨g, 0, none⟩ cap l Tryd.underlying48 Tryd.underlying5 Tryd.underlying9 fun j hj => ?_
    have ha : (⟨g, 0, none⟩ : Addr).add j = ⟨g, j, none⟩ := by unfold Addr.add; split <;> simp_all
    rw [ha, cell_of_row w g j cur _ (0, 0) hg]
    have e : (cur.toList.take (l.length * 1))[j]? = (l.map byteV)[j]? := by rw [ht]
    rw [List.getElem?_take, if_pos (by omega)] at e
    rw [← Array.getElem?_toList, e, List.getElem?_map, List.getElem?_eq_getElem hj]
    rfl
def strV (l : List UInt8) : Value := .string ⟨l.toArray⟩
def textPost (w : World) (s : ByteArray) : Ending → World → Prop := fun e w' =>
  e = .returned (.tuple #[strV (if 250 < s.size then [] else textL s.data.toList), .int .i64 (if 250 < s.size then 5 else 0)]) ∧ Below w.heap.size w w'
def encTo (s : ByteArray) (k : Nat) : List UInt8 := (s.data.toList.take k).flatMap encC
theorem encTo_succ (s : ByteArray) (k : Nat) (h : k < s.size) : encTo s (k + 1) = encTo s k ++ encC s[k] := by
  unfold encTo
  rw [List.take_succ_eq_append_getElem (by simpa using h), List.flatMap_append]
  simp; rfl
theorem encTo_len (s : ByteArray) : ∀ k, (encTo s k).length ≤ 3 * k
  | 0 => by simp [encTo]
  | k + 1 => by
    by_cases h : k < s.size
    · have := encTo_len s k
      have := (enc_len s[k]).2
      rw [encTo_succ s k h, List.length_append]; omega
    · have := encTo_len s k
      unfold encTo at *
      rw [List.take_of_length_le (by simp; omega)] at *
      omega

set_option maxRecDepth 100000 in
set_option maxHeartbeats 400000 in
theorem text_any (s : ByteArray) (w : World) (he : Env w) (hs : s.size ≤ maxLen) :
    Calls Tryd.prog 32 #[.string s] w (textPost w s) := by
  unfold maxLen at hs
  by_cases h2 : 250 < s.size
  · have H2 := Lib.hid h2
    go_enter Tryd.func32, Tryd.ntmps32
    go_wp2_with fail
    go_ret2
    exact ⟨by rw [if_pos H2.out, if_pos H2.out]; rfl, Below.refl _ _⟩
  · have h3 : s.size ≤ 250 := by omega
    have H2 := Lib.hid h2; clear h2
    by_cases h0 : s.size = 0
    · obtain rfl : s = ⟨#[]⟩ := by
        obtain ⟨⟨l⟩⟩ := s
        have : l = [] := List.eq_nil_of_length_eq_zero (show l.length = 0 from h0)
        rw [this]
      go_enter Tryd.func32, Tryd.ntmps32
      go_wp2_with fail
      go_ret2
      exact ⟨by rw [if_neg H2.out, if_neg H2.out]; rfl, Below.refl _ _⟩
    · have hne : s.toList.isEmpty = false := by
        rw [Lib.toList_data]; cases hd : s.data.toList with
        | nil => exact absurd (by rw [← len_eq s, hd]; rfl) h0
        | cons _ _ => rfl
      have hne' : s.toList ≠ [] := by intro e; rw [e] at hne; cases hne
      have HNE : Hid (s.data.toList ≠ []) := by show _; rw [← Lib.toList_data]; exact hne'
      have h1 : 1 ≤ s.size := by omega
      clear h0 hne'
      go_enter Tryd.func32, Tryd.ntmps32
      go_wp2_with fail
      go_loopw [4, 5, 13] (fun v _ i wr => ∃ k : Nat, k ≤ s.size ∧ i = .int .i64 k ∧ wr.ownsRow w.heap.size 5 1 v (encTo s k).length ((encTo s k).map byteV) ∧ Below w.heap.size w wr) (fun _ _ i _ => s.size - (intOf i).toNat)
      case atStart => exact ⟨0, Nat.zero_le _, rfl, World.ownsRow_nil _ _ _ _, Below.refl _ _⟩
      case round =>
        obtain ⟨k, hk, rfl, hown, hbel⟩ := hrel
        have HO := Lib.hid hown; clear hown
        have hel := encTo_len s k
        by_cases hlt : k < s.size
        · have i1 : (k : Int) < s.size := by omega
          have hsz := hbel.size
          have HW := Lib.hid (write_any w.heap.size _ _ s[k] wr (he.below hbel (Nat.le_refl _)) (by rw [List.length_map]; exact HO.out) hsz (by rw [List.length_map]; omega))
          go_wp2_with fail
          refine HW.out.mono ?_
          rintro e w1 ⟨v', rfl, hown', hg'⟩
          have HO' := Lib.hid hown'; clear hown'
          have HB := Lib.hid (hbel.trans (grown_below HO.out hg' hsz)); clear hg' hsz hbel
          go_wp2_with fail
          go_roundw
          case rel => exact ⟨k + 1, by omega, by go_num, by
            have := HO'.out
            rw [List.length_map, ← List.map_append, ← List.length_append] at this
            rw [encTo_succ s k hlt]; exact this, HB.out⟩
          case measure => simp [intOf]; omega
        · obtain rfl : k = s.size := by omega
          have hc := conv_own HO.out
          have HB := Lib.hid hbel; clear hbel
          go_wp2_with fail
          go_ret2
          refine ⟨?_, HB.out⟩
          rw [if_neg H2.out, if_neg H2.out]
          have : textL s.data.toList = encTo s s.size := by
            unfold textL encTo; rw [if_neg HNE.out, List.take_of_length_le (by simp)]
          rw [this]; rfl
end Go.Proofs.YtjieiakgikhofaaDoor.Kx
