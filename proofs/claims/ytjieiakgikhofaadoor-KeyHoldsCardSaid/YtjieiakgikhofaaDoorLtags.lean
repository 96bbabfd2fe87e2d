/- Proves that the law KeyTags returns true at every list. Conditions: the library's variable and the table of digits are laid; a nil list has no capacity. -/
import Derived.Test.YtjieiakgikhofaaDoorLnames
namespace Go.Proofs.YtjieiakgikhofaaDoor.Ltags
open Go.RowKit Km Kt Kv Kl Kc Ap Kx Ky Kr Ks Kf Kg Kj Ku Kz Ka Kk Lnames

theorem small_next {l : List Bs} {k : Nat} (h : k < l.length) (hs : ∀ x ∈ l.take k, x.length ≤ 100) (hc : l[k].length ≤ 100) : ∀ x ∈ l.take (k + 1), x.length ≤ 100 := by
  intro x hx
  rw [List.take_succ_eq_append_getElem h, List.mem_append] at hx
  rcases hx with hx | hx
  · exact hs x hx
  · obtain rfl : x = l[k] := by simpa using hx
    exact hc
theorem own_some {B n cap : Nat} {e : TypeId} {w : World} {A : Option Addr} {xs : List Value} (h : w.ownsRow B e 1 (.slice A n cap) n xs) (hn : 0 < n) : ∃ g, A = some ⟨g, 0, none⟩ ∧ B ≤ g := by
  rcases h.2 with ⟨_, h1⟩ | ⟨g, cap', cur, hv, hb, _⟩
  · omega
  · injection hv with hv
    exact ⟨g, hv, hb⟩
theorem keepRow {B n : Nat} {e : TypeId} {w w' : World} {v : Value} {xs : List Value} (h : w.ownsRow B e 1 v n xs) (hb : Below w.heap.size w w') : w'.ownsRow B e 1 v n xs := by
  refine ⟨h.1, ?_⟩
  rcases h.2 with hn | ⟨g, cap, cur, hv, hB, hg, rest⟩
  · exact .inl hn
  · exact .inr ⟨g, cap, cur, hv, hB, by rw [hb.block g (Array.getElem?_eq_some_iff.1 hg).1]; exact hg, rest⟩
theorem same_true (A B : Option Addr) (n k c d : Nat) (l : List Bs) (w : World) (hn : l.length = n) (hk : l.length = k) (hA : Rd w A l) (hB : Rd w B l) (hl : l.length ≤ 1000000) :
    Calls Tryd.prog 31 #[.slice A n c, .slice B k d] w (valAfter w (.bool true)) := by
  subst hn; subst hk
  refine (same_any A B l l c d w hA hB hl hl).mono fun _ w' hh => ⟨?_, ?_⟩
  · rw [hh.1]; simp
  · obtain ⟨m, rfl⟩ := hh.2
    exact After.drewN _ _
def ownRes (w : World) (l : List Bs) (n : Nat) (e0 : Int) : Ending → World → Prop := fun e w' => ∃ A c, e = .returned (.tuple #[.slice A n c, .int .i64 e0]) ∧ n ≤ c ∧ Own w.heap.size w' (.slice A n c) l ∧ After w w'
theorem own_res {w : World} {l : List Bs} {a : Int} {e : Ending} {w' : World} (hh : strsPost w l a e w') : ownRes w l l.length a e w' := by
  obtain ⟨v, rfl, hown, hb⟩ := hh
  obtain ⟨A, c, rfl, hc⟩ := own_shape (own_row hown)
  exact ⟨A, c, rfl, hc, hown, After.of hb⟩
theorem tags_own (A : Option Addr) (c n : Nat) (l m : List Bs) (e : Int) (w : World) (hA : Rd w A l) (hl : l.length ≤ 1000000) (hx : ∀ x ∈ l, x.length ≤ 1000000) (h : tagsV l = m) (hn : m.length = n) (h' : tagsE l = e) :
    Calls Tryd.prog 29 #[.slice A l.length c] w (ownRes w m n e) := by
  subst h; subst h'; subst hn
  exact (tags_any A c l w hA hl hx).mono fun _ _ hh => own_res hh
theorem rtags_at (A : Option Addr) (c n : Nat) (l m : List Bs) (e : Int) (w : World) (hA : Rd w A l) (hl : l.length ≤ 1000) (hx : ∀ x ∈ l, x.length ≤ 1000000) (h : tagsV l = m) (hn : m.length = n) (h' : tagsE l = e) :
    Calls Tryd.prog 30 #[.slice A l.length c] w (listRes w m n e) := by
  refine (rtags_any A c l w hA hl hx).mono fun _ _ hh => ?_
  obtain ⟨v, rfl, hown, hb⟩ := hh
  exact res_of ⟨v, rfl, hown, hb⟩ h hn h'
theorem tags_len (l : List Bs) : (tagsV l).length ≤ 16 := by
  by_cases h : tagsE l = 0
  · have h' := h
    unfold tagsV
    rw [if_pos h]
    unfold tagsE at h'
    split at h'
    · split at h'
      · cases h'
      · omega
    · cases h'
  · unfold tagsV
    rw [if_neg h]
    simp

set_option maxRecDepth 100000 in
set_option maxHeartbeats 1000000 in
theorem tags_walk (A : Option Addr) (c : Nat) (l : List Bs) (w : World) (he : Env w) (hA : Rd w A l) (_ : l.length ≤ c) (_ : c ≤ maxLen) (hn : A = none → c = 0) (_ : ∀ x ∈ l, x.length ≤ 140737488351232) :
    Calls Tryd.prog 6 #[.slice A l.length c] w (lawPost w) := by
  by_cases h60 : 60 < l.length
  · have i1 : (60 : Int) < l.length := by omega
    go_enter Tryd.func6, Tryd.ntmps6
    go_wp2_with fail
    refine (known_true w _ he (After.of (Below.refl _ _))).mono ?_
    rintro e w3 ⟨rfl, hb3⟩
    go_wp2_with fail
    go_ret
    exact ⟨rfl, hb3⟩
  · have i1 : ¬ (60 : Int) < l.length := by omega
    obtain ⟨m, hm⟩ : ∃ m, tagsV l = m := ⟨_, rfl⟩
    obtain ⟨e0, he0⟩ : ∃ e0, tagsE l = e0 := ⟨_, rfl⟩
    obtain ⟨n, hmn⟩ : ∃ n, m.length = n := ⟨_, rfl⟩
    have hn16 : n ≤ 16 := by rw [← hmn, ← hm]; exact tags_len l
    have HM := Lib.hid hm
    have HE := Lib.hid he0
    have HN := Lib.hid hmn
    clear hm he0 hmn
    go_enter Tryd.func6, Tryd.ntmps6
    go_wp2_with fail
    go_loop [4, 17] (fun _ i => ∃ k : Nat, k ≤ l.length ∧ i = .int .i64 k ∧ ∀ x ∈ l.take k, x.length ≤ 100) (fun _ i => l.length - (intOf i).toNat)
    case atStart => exact ⟨0, Nat.zero_le _, rfl, by simp⟩
    case round =>
      obtain ⟨k, hk, rfl, hs⟩ := hrel
      have HS := Lib.hid hs; clear hs
      by_cases hlt : k < l.length
      · obtain ⟨b1, o1, rfl, hb1, hc1⟩ := hA.at_ hlt
        have i2 : (k : Int) < l.length := by omega
        by_cases h100 : 100 < l[k].length
        · have i3 : (100 : Int) < l[k].length := by omega
          go_wp2_with fail
          refine (known_true w _ he (After.of (Below.refl _ _))).mono ?_
          rintro e w3 ⟨rfl, hb3⟩
          go_wp2_with fail
          go_ret
          exact ⟨rfl, hb3⟩
        · have i3 : ¬ (100 : Int) < l[k].length := by omega
          have HS' := Lib.hid (small_next hlt HS.out (by omega))
          go_wp2_with fail
          go_round
          case rel => exact ⟨k + 1, by omega, by go_num, HS'.out⟩
          case measure => simp [intOf]; omega
      · obtain rfl : k = l.length := by omega
        have hnn : ¬ (l.length : Int) < l.length := by omega
        have hx := HS.out
        rw [List.take_length] at hx
        have HX : Hid (∀ x ∈ l, x.length ≤ 1000000) := fun x h => by have := hx x h; omega
        clear hx HS
        go_wp2_with (at_builtin; (refine wpList_from rfl _ _ rfl rfl (own_nil w.heap.size _) l A c rfl hn hA (by simp) (by omega) (Nat.le_refl _) ?_))
        intro v1 w1 hown1 hg1
        have H1 : Hid (Own w.heap.size w1 v1 l) := hown1
        have A1 := Lib.hid (After.of ((Below.refl _ _).grown hg1 (Nat.le_refl _) (fun k hk => by cases hk)))
        obtain ⟨Ao, co, rfl, hco⟩ := own_shape (own_row H1.out)
        have R1 := Lib.hid (Rd.of_own (own_row H1.out))
        clear hown1 hg1
        go_wp2_with fail
        refine (tags_own Ao co n l m e0 w1 R1.out (by omega) HX.out HM.out HN.out HE.out).mono ?_
        rintro e w2 ⟨Ag, cg, rfl, hcg, hown2, a2⟩
        have O2 := Lib.hid hown2
        have A2 := Lib.hid a2
        clear hown2 a2
        go_wp2_with fail
        refine (rtags_at A c n l m e0 w2 (A2.out.rd _ _ (A1.out.rd _ _ hA)) (by omega) HX.out HM.out HN.out HE.out).mono ?_
        rintro e w3 ⟨Aw, cw, rfl, hcw, r3, a3⟩
        have R3 := Lib.hid r3
        have A3 := Lib.hid a3
        clear r3 a3
        go_wp2_with fail
        refine (list_true Ag Aw n n cg cw m m e0 e0 w3 HN.out HN.out (A3.out.rd _ _ (Rd.of_own (by have := own_row O2.out; rw [← HN.out] at this; exact this))) R3.out (by rw [HN.out]; omega) rfl rfl).mono ?_
        rintro e w4 ⟨rfl, a4⟩
        have A4 := Lib.hid a4; clear a4
        go_wp2_with fail
        refine (same_true Ao A l.length l.length co c l w4 rfl rfl (A4.out.rd _ _ (A3.out.rd _ _ (A2.out.rd _ _ R1.out))) (A4.out.rd _ _ (A3.out.rd _ _ (A2.out.rd _ _ (A1.out.rd _ _ hA)))) (by omega)).mono ?_
        rintro e w5 ⟨rfl, a5⟩
        have A5 := Lib.hid a5; clear a5
        have A25 : Hid (After w2 w5) := A3.out.trans (A4.out.trans A5.out)
        have O5 : Hid (∃ xs : List Value, xs.length = n ∧ w5.ownsRow w1.heap.size 9 1 (.slice Ag n cg) n xs) := by
          show ∃ xs : List Value, _
          have ho := own_row O2.out
          rw [HN.out] at ho
          refine ⟨m.map strV, by simp [HN.out], ?_⟩
          exact keepRow ho A25.out.below
        have B5 : Hid (Below w1.heap.size w1 w5) := (A2.out.trans A25.out).below
        clear A3 A4 A5 A25 O2 R3
        go_wp2_with fail
        go_loopw [10, 52] (fun _ i wr => ∃ k : Nat, k ≤ n ∧ i = .int .i64 k ∧ (∃ xs : List Value, xs.length = n ∧ wr.ownsRow w1.heap.size 9 1 (.slice Ag n cg) n xs) ∧ Below w1.heap.size w1 wr) (fun _ i _ => n - (intOf i).toNat)
        case atStart => exact ⟨0, Nat.zero_le _, rfl, O5.out, B5.out⟩
        case round =>
          obtain ⟨k, hk, rfl, ⟨xs, hxs, hown⟩, hbel⟩ := hrel
          have HB := Lib.hid hbel; clear hbel
          by_cases hlt2 : k < n
          · obtain ⟨g, rfl, hg⟩ := own_some hown (by omega)
            have i5 : (k : Int) < n := by omega
            have hcell := (hown.cellAt k (by omega)).trans (List.getElem?_eq_getElem (by omega))
            have hfr := hown.frozenAt k
            have HST := Lib.hid (hown.stored k (.string ⟨#[]⟩))
            clear hown
            go_wp2_with fail
            go_roundw
            case rel => exact ⟨k + 1, by omega, by go_num, ⟨_, by rw [List.length_set]; exact hxs, HST.out.1⟩, HB.out.grown HST.out.2 HB.out.size (fun j hj => by cases hj; exact hg)⟩
            case measure => simp [intOf]; omega
          · obtain rfl : k = n := by omega
            have hnn2 : ¬ (k : Int) < k := by omega
            have A6 := Lib.hid (After.of HB.out)
            clear hown
            go_wp2_with fail
            refine (same_true Ao A l.length l.length co c l _ rfl rfl (A6.out.rd _ _ R1.out) (A6.out.rd _ _ (A1.out.rd _ _ hA)) (by omega)).mono ?_
            rintro e w7 ⟨rfl, a7⟩
            have A7 := Lib.hid ((A1.out.trans A6.out).trans a7); clear a7
            go_wp2_with fail
            refine (known_true w _ he A7.out).mono ?_
            rintro e w8 ⟨rfl, hb8⟩
            go_wp2_with fail
            go_ret
            exact ⟨rfl, hb8⟩
end Go.Proofs.YtjieiakgikhofaaDoor.Ltags
