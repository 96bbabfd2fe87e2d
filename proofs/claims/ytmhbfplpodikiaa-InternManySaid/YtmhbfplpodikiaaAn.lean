/- Proves that InternMany returns true. Conditions: as each theorem names them. -/
import Derived.Test.YtmhbfplpodikiaaAo
import Derived.Deep.RegionHeld3
namespace Go.Proofs.Ytmhbfplpodikiaa.An
open Go.RowKit Ap Mi Nw Rg Aa Ab Ac Ad Ag Ah Ai Aj Ak Al Am Ao
open Ae (Nx Tn put2 put2_blk put2_only add_any rel_any addPost relPost)

section
variable {G : Nat → Prop} {w v u : World} {L : List Nr} {A A' : Option Addr} {c c' n n' : Nat} {m : Int} {l : List Nr}
theorem nx_last (h : Nx G v u L A c) (hb : Below w.heap.size w v) (o : Obj) : Nx G w (u.alloc o) L A c := by
  have b1 := bnew u o
  have z1 := hb.size; have z2 := h.b.size; have z3 := b1.size
  exact ⟨(h.r.below b1 (Nat.le_refl _)).mono fun j hj => by
    rcases hj with q | q
    · exact Or.inl q
    · exact Or.inr ⟨by omega, by omega⟩, (hb.trans (h.b.mono (by omega))).trans (b1.mono (by omega))⟩
theorem nx_early (h : Nx G v u L A c) (hb : Below w.heap.size w v) {ba : Nat} (h1 : w.heap.size ≤ ba) (h2 : ba < v.heap.size) (hG : ∀ j, G j → j < w.heap.size) (x y : Value) : Nx G w (put2 u ba x y) L A c := by
  have ho := put2_only u ba x y
  have z1 := hb.size; have z2 := h.b.size; have z3 := ho.size
  refine ⟨(h.r.only ho (fun j e hj => ?_)).mono fun j hj => ?_, (hb.trans (h.b.mono (by omega))).trans (ho.below (fun j e => by omega) (by omega))⟩
  · rcases hj with q | q
    · have := hG j q; omega
    · omega
  · rcases hj with q | q
    · exact Or.inl q
    · exact Or.inr ⟨by omega, by omega⟩
theorem zero_new (v : World) : Blk (v.alloc (.cells #[.int .i64 0, .slice none 0 0] 31)) v.heap.size #[.int .i64 0, .slice none 0 0] 31 := Blk.new _ _ _
set_option maxRecDepth 100000 in
set_option maxHeartbeats 4000000 in
theorem many_walk (many every : Int) (he : 0 ≤ every ∧ every ≤ 255) (W : World) :
    Calls Try.prog 5 #[.int .i64 many, .int .u8 every] W (boolTo true W) := by
  unfold boolTo
  by_cases hm : 0 ≤ many ∧ many ≤ 400 ∧ 1 ≤ every ∧ every ≤ 9
  case neg =>
    have hc : many < 0 ∨ (¬ many < 0 ∧ 400 < many) ∨ (¬ many < 0 ∧ ¬ 400 < many ∧ every < 1) ∨ (¬ many < 0 ∧ ¬ 400 < many ∧ ¬ every < 1 ∧ 9 < every) := by omega
    rcases hc with i1 | ⟨i1, i2⟩ | ⟨i1, i2, i3⟩ | ⟨i1, i2, i3, i4⟩
    · clear hm he
      go_enter Try.func5, Try.ntmps5
      go_wp2_with fail
      refine (known_any _).mono ?_
      rintro q w9 ⟨rfl, hb⟩
      have HB9 := Lib.hid hb
      clear hb
      go_wp2_with fail
      go_ret
      exact ⟨rfl, HB9.out⟩
    · clear hm he
      go_enter Try.func5, Try.ntmps5
      go_wp2_with fail
      refine (known_any _).mono ?_
      rintro q w9 ⟨rfl, hb⟩
      have HB9 := Lib.hid hb
      clear hb
      go_wp2_with fail
      go_ret
      exact ⟨rfl, HB9.out⟩
    · clear hm he
      go_enter Try.func5, Try.ntmps5
      go_wp2_with fail
      refine (known_any _).mono ?_
      rintro q w9 ⟨rfl, hb⟩
      have HB9 := Lib.hid hb
      clear hb
      go_wp2_with fail
      go_ret
      exact ⟨rfl, HB9.out⟩
    · clear hm he
      go_enter Try.func5, Try.ntmps5
      go_wp2_with fail
      refine (known_any _).mono ?_
      rintro q w9 ⟨rfl, hb⟩
      have HB9 := Lib.hid hb
      clear hb
      go_wp2_with fail
      go_ret
      exact ⟨rfl, HB9.out⟩
  obtain ⟨h1, h2, h3, h4⟩ := hm
  obtain ⟨n, rfl⟩ : ∃ n : Nat, many = (n : Int) := ⟨many.toNat, by omega⟩
  have i1 : ¬ (n : Int) < 0 := by omega
  have i2 : ¬ 400 < (n : Int) := by omega
  have i3 : ¬ every < 1 := by omega
  have i4 : ¬ 9 < every := by omega
  have HNW := Lib.hid (new_yes (m := 400) (by omega) 11 (by omega) W)
  unfold newPost at HNW
  clear he
  go_enter Try.func5, Try.ntmps5
  go_wp2_with fail
  refine HNW.out.mono ?_
  rintro q w3 ⟨g, F0, rfl, hst, hf0, hb3⟩
  clear HNW
  obtain ⟨v3, hv3⟩ : ∃ v3, v3 = w3.alloc (.cells #[.int .i64 400, .slice none 0 0] 31) := ⟨_, rfl⟩
  have b3 : Below w3.heap.size w3 v3 := by rw [hv3]; exact bnew _ _
  have k3 : Blk v3 w3.heap.size #[.int .i64 400, .slice none 0 0] 31 := by rw [hv3]; exact Blk.new _ _ _
  obtain ⟨M, hM⟩ : ∃ M, M = w3.heap.size := ⟨_, rfl⟩
  have hz3 := hb3.size
  have HRO : Hid (Ro W.heap.size M W 400 0 (fun j => F0 j ∧ j < w3.heap.size) (fun _ => False) g [] none 0 v3) := by
    rw [← hM] at k3
    exact ⟨hst.tight.below b3, RT.nil, (fun _ _ h => h), fun j hj => ⟨hf0 j hj.1, by have := hj.2; omega, Nat.lt_of_lt_of_le hj.2 b3.size⟩, (fun _ h => h.elim), k3, hb3.trans (b3.mono hz3), by omega, iv_nil, (fun x hx => by cases hx), Nat.le_refl _⟩
  clear hst hf0 b3 k3 hz3 hb3
  go_upto_region 5 with fail
  rw [← hv3, ← hM]
  clear hv3 hM
  go_wp2_with fail
  go_loopw [8] (fun i wr => ∃ (K : Nat) (F G : Nat → Prop) (l : List Nr) (A2 : Option Addr) (c2 : Nat), K ≤ n ∧ i = .int .i64 (K : Int) ∧ Ro W.heap.size M W 400 K F G g l A2 c2 wr) (fun i _ => n - (intOf i).toNat)
  case atStart => exact ⟨0, _, _, [], none, 0, Nat.zero_le _, rfl, HRO.out⟩
  case round =>
    obtain ⟨K, F, G, l, A2, c2, hK, rfl, hro⟩ := hrel
    clear HRO
    by_cases hlt : K < n
    · have j1 : (K : Int) < (n : Int) := by omega
      have h0K : (0 : Int) ≤ (K : Int) := by omega
      have hK1 : (K : Int) ≤ 400 := by omega
      go_upto_region 10 with fail
      have HNA : Hid (∀ v, Calls Try.prog 20 #[.int .i64 ((K : Int))] v (fun q w' => q = .returned (.string (nameS ((K : Int)))) ∧ Below v.heap.size v w')) := fun v => name_any ((K : Int)) (by omega) v
      have hns := nameS_size ((K : Int))
      obtain ⟨s, hs⟩ : ∃ s, s = nameS ((K : Int)) := ⟨_, rfl⟩
      rw [← hs] at HNA hns
      have hns2 : s.size ≤ 7 := by omega
      clear hs hns
      have HR := Lib.hid hro
      have HAD : Hid (∀ v, Below wr.heap.size wr v → Calls Try.prog 13 #[.agg #[.int .i64 400, .slice A2 l.length c2], .string s] v (fun q u => ∃ A3 c3, q = .returned (.tuple #[.agg #[.int .i64 400, .slice A3 (addL 400 l s).length c3], .int .i64 (addV 400 l s), .int .i64 (addE 400 l s)]) ∧ Nx G v u (addL 400 l s) A3 c3)) := fun v hv => by
        have h := add_any 400 s (HR.out.rt.below hv (Nat.le_refl _)) (by have := HR.out.le; omega) (HR.out.f40 (by omega))
        unfold addPost tbV at h
        exact h
      have IV := Lib.hid (iv_add HR.out.iv 400 s)
      have FI : Hid (Fine ((K + 1 : Nat) : Int) (addL 400 l s)) := by have := fine_add HR.out.fi (by omega) s (most := 400); rw [show (((K + 1 : Nat)) : Int) = (K : Int) + 1 by omega]; exact this
      have LE : Hid ((addL 400 l s).length ≤ K + 1) := by show _ ≤ _; have := (addL_len 400 l s).2; have := HR.out.le; omega
      obtain ⟨V, hV⟩ : ∃ V, V = addV 400 l s := ⟨_, rfl⟩
      obtain ⟨E, hE⟩ : ∃ E, E = addE 400 l s := ⟨_, rfl⟩
      obtain ⟨L, hL⟩ : ∃ L, L = addL 400 l s := ⟨_, rfl⟩
      rw [← hV, ← hE, ← hL] at HAD
      rw [← hL] at IV FI LE
      have HV := Lib.hid hV.symm; have HE := Lib.hid hE.symm; have HL := Lib.hid hL.symm
      clear hV hE hL
      have HGT : Hid (∀ j, G j → j < wr.heap.size) := fun j hj => (HR.out.t j hj).2.2
      obtain ⟨m0, m1, _⟩ := HR.out.bm.two
      have lm := HR.out.bm.lt
      have M0 : ∀ v, Below wr.heap.size wr v → v.cell? ⟨M, 0, none⟩ = some (.int .i64 400) := fun v hv => (hv.cell lm).trans m0
      have M1 : ∀ v, Below wr.heap.size wr v → v.cell? ⟨M, 1, none⟩ = some (.slice A2 l.length c2) := fun v hv => (hv.cell lm).trans m1
      have D1 : Below wr.heap.size wr wr.drew := (Below.refl _ _).drew
      clear m0 m1 hro
      refine wp_region_noPanic ?_
      refine wp_region_held_drew (S := fun v => Below wr.heap.size wr v) (by kernel_rfl) (D1) (fun hHeld => ?_)
      obtain ⟨wq, hwq⟩ : ∃ wq, wq = wr.drew := ⟨_, rfl⟩
      rw [← hwq] at hHeld ⊢
      clear hwq
      refine wpAnyH_take (i := 0) (oi := ⟨some 52, _, _, _, _, _⟩) (v := ?_) rfl (by kernel_rfl) (by kernel_rfl) (by kernel_rfl) (fun _ _ _ h => h) (Or.inl ⟨by rfl, ?_⟩) (by assumption) ?_
      rotate_left
      · intro w hSw; go_simp; first | done | with_reducible rfl
      try simp only [Act.put, List.setIfInBounds_toArray, List.set_cons_zero, List.set_cons_succ]
      refine wpAnyH_take (i := 1) (oi := ⟨some 53, _, _, _, _, _⟩) (v := ?_) rfl (by kernel_rfl) (by kernel_rfl) (by kernel_rfl) (fun _ _ _ h => h) (Or.inl ⟨by rfl, ?_⟩) (by assumption) ?_
      rotate_left
      · intro w hSw; go_simp; first | done | with_reducible rfl
      try simp only [Act.put, List.setIfInBounds_toArray, List.set_cons_zero, List.set_cons_succ]
      refine wpAnyH_ready (rs := [2, 8]) (by kernel_rfl) (by simp) ?_
      refine AllReadyH.cons (o := ⟨some 54, _, _, _, _, _⟩) rfl (fun K hK => ?_) (AllReadyH.cons (o := ⟨some 9, _, _, _, _, _⟩) rfl (fun K hK => ?_) AllReadyH.nil)
      · go_simp
        with_reducible refine (HNA.out _).mono ?_
        rintro q u2 ⟨rfl, hb⟩
        have K2 : Below wr.heap.size wr u2 := hHeld.trans (hb.mono hHeld.size)
        clear hb
        go_simp
        refine hK.out _ _ (K2) (fun hHeld => ?_)
        clear hK K
        try simp only [Act.put, List.setIfInBounds_toArray, List.set_cons_zero, List.set_cons_succ]
        refine wpAnyH_ready (rs := [3, 8]) (by kernel_rfl) (by simp) ?_
        refine AllReadyH.cons (o := ⟨some 55, _, _, _, _, _⟩) rfl (fun K hK => ?_) (AllReadyH.cons (o := ⟨some 9, _, _, _, _, _⟩) rfl (fun K hK => ?_) AllReadyH.nil)
        · go_simp
          refine (HAD.out _ hHeld).mono ?_
          rintro q u3 ⟨A3, c3, rfl, hn⟩
          have HN := Lib.hid hn
          have K3 : Below wr.heap.size wr u3 := hHeld.trans (hn.b.mono hHeld.size)
          have HPV := Lib.hid hHeld
          clear hn
          go_simp
          refine hK.out _ _ (K3) (fun hHeld => ?_)
          clear hK K
          try simp only [Act.put, List.setIfInBounds_toArray, List.set_cons_zero, List.set_cons_succ]
          refine wpAnyH_take (i := 4) (oi := ⟨some 51, _, _, _, _, _⟩) (v := ?_) rfl (by kernel_rfl) (by kernel_rfl) (by kernel_rfl) (fun _ _ _ h => h) (Or.inl ⟨by rfl, ?_⟩) (by assumption) ?_
          rotate_left
          · intro w hSw; go_simp; first | done | with_reducible rfl
          try simp only [Act.put, List.setIfInBounds_toArray, List.set_cons_zero, List.set_cons_succ]
          refine wpAnyH_take (i := 5) (oi := ⟨some 56, _, _, _, _, _⟩) (v := ?_) rfl (by kernel_rfl) (by kernel_rfl) (by kernel_rfl) (fun _ _ _ h => h) (Or.inl ⟨by rfl, ?_⟩) (by assumption) ?_
          rotate_left
          · intro w hSw; go_simp; first | done | with_reducible rfl
          try simp only [Act.put, List.setIfInBounds_toArray, List.set_cons_zero, List.set_cons_succ]
          refine wpAnyH_take (i := 6) (oi := ⟨some 57, _, _, _, _, _⟩) (v := ?_) rfl (by kernel_rfl) (by kernel_rfl) (by kernel_rfl) (fun _ _ _ h => h) (Or.inl ⟨by rfl, ?_⟩) (by assumption) ?_
          rotate_left
          · intro w hSw; go_simp; first | done | with_reducible rfl
          try simp only [Act.put, List.setIfInBounds_toArray, List.set_cons_zero, List.set_cons_succ]
          refine wpAnyH_take (i := 7) (oi := ⟨some 58, _, _, _, _, _⟩) (v := ?_) rfl (by kernel_rfl) (by kernel_rfl) (by kernel_rfl) (fun _ _ _ h => h) (Or.inl ⟨by rfl, ?_⟩) (by assumption) ?_
          rotate_left
          · intro w hSw; go_simp; first | done | with_reducible rfl
          try simp only [Act.put, List.setIfInBounds_toArray, List.set_cons_zero, List.set_cons_succ]
          refine wpAnyH_ready (rs := [8]) (by kernel_rfl) (by simp) ?_
          refine AllReadyH.cons (o := ⟨some 9, _, _, _, _, _⟩) rfl (fun K hK => ?_) AllReadyH.nil
          go_simp
          have K8 : Below wr.heap.size wr (u3.alloc (.cells #[.int .i64 0, .slice none 0 0] 31)) := hHeld.trans ((bnew _ _).mono hHeld.size)
          refine hK.out _ _ (K8) (fun hHeld => ?_)
          clear hK K
          try simp only [Act.put, List.setIfInBounds_toArray, List.set_cons_zero, List.set_cons_succ]
          refine wpAnyH_ready (rs := [9]) (by kernel_rfl) (by simp) ?_
          refine AllReadyH.cons (o := ⟨none, _, _, _, _, _⟩) rfl (fun K hK => ?_) AllReadyH.nil
          go_simp
          refine hK.out _ _ (K3.trans ((bnew _ _).mono K3.size)) (fun hHeld => ?_)
          clear hK K
          try simp only [Act.put, List.setIfInBounds_toArray, List.set_cons_zero, List.set_cons_succ]
          refine wpAnyH_take (i := 10) (oi := ⟨some 10, _, _, _, _, _⟩) (v := ?_) rfl (by kernel_rfl) (by kernel_rfl) (by kernel_rfl) (fun _ _ _ h => h) (Or.inl ⟨by rfl, ?_⟩) (by assumption) ?_
          rotate_left
          · intro w hSw; go_simp; first | done | with_reducible rfl
          try simp only [Act.put, List.setIfInBounds_toArray, List.set_cons_zero, List.set_cons_succ]
          refine wpAnyH_take (i := 11) (oi := ⟨some 11, _, _, _, _, _⟩) (v := ?_) rfl (by kernel_rfl) (by kernel_rfl) (by kernel_rfl) (fun _ _ _ h => h) (Or.inl ⟨by rfl, ?_⟩) (by assumption) ?_
          rotate_left
          · intro w hSw; go_simp; first | done | with_reducible rfl
          try simp only [Act.put, List.setIfInBounds_toArray, List.set_cons_zero, List.set_cons_succ]
          refine wpAnyH_done (by kernel_rfl) ?_ _
          refine NoPanic.normal ?_
          first | refine NoPanic.normal ?_ | skip
          obtain ⟨u4, hu4⟩ : ∃ u4, u4 = u3.alloc (.cells #[.int .i64 400, .slice A3 L.length c3] 31) := ⟨_, rfl⟩
          obtain ⟨ba, hba⟩ : ∃ ba, ba = u3.heap.size := ⟨_, rfl⟩
          have HN4 : Hid (Nx G wr u4 L A3 c3) := by show Nx _ _ _ _ _ _; rw [hu4]; exact nx_last HN.out HPV.out _
          have KB : Hid (Blk u4 ba #[.int .i64 400, .slice A3 L.length c3] 31) := by show Blk _ _ _ _; rw [hu4, hba]; exact Blk.new _ _ _
          have HBA : Hid (wr.heap.size ≤ ba) := by show _ ≤ _; rw [hba]; exact K3.size
          rw [← hu4, ← hba]
          clear hu4 hba
          clear M0 M1 lm hHeld
          go_wp2_with fail
          refine (HNA.out _).mono ?_
          rintro q u5 ⟨rfl, hb5⟩
          have HB5 := Lib.hid hb5
          have S5 := Lib.hid ((HR.out.st.below HN4.out.b).below hb5)
          have KB5 := Lib.hid (KB.out.below hb5 KB.out.lt)
          have hz4 := HN4.out.b.size
          have hz5 := hb5.size
          clear hb5
          have HAT := Lib.hid (adds_true S5.out (HR.out.f31 (by omega)) s (by omega) HV.out HE.out)
          go_wp2_with fail
          refine HAT.out.mono ?_
          rintro q u6 ⟨rfl, hg⟩
          rw [HL.out] at hg
          have HG := Lib.hid hg
          obtain ⟨_, _, _, ho6⟩ := hg
          have KB6 := Lib.hid (KB5.out.only ho6 (fun hf => by have := (HR.out.f _ hf).2.2; have := HBA.out; omega))
          have BM6 := Lib.hid (((HR.out.bm.below HN4.out.b HR.out.bm.lt).below HB5.out (by have := HR.out.bm.lt; omega)).only ho6 (fun hf => (HR.out.f _ hf).2.1 rfl))
          clear ho6 HAT
          obtain ⟨F4, G4, hro4⟩ := ro_next HR.out HN4.out HB5.out HG.out IV.out FI.out LE.out
          obtain ⟨s0, s1, _⟩ := KB6.out.two
          have ls := KB6.out.lt
          obtain ⟨n0, n1, nf0, nf1⟩ := BM6.out.two
          have ln := BM6.out.lt
          obtain ⟨u7, hu7⟩ : ∃ u7, u7 = put2 u6 M (.int .i64 400) (.slice A3 L.length c3) := ⟨_, rfl⟩
          rw [← hu7] at hro4
          have HR4 := Lib.hid hro4
          unfold put2 at hu7
          clear hro4
          go_wp2_with fail
          rw [← hu7]
          clear hu7 s0 s1 ls n0 n1 nf0 nf1 ln
          first | go_roundw | (go_wp2_with fail; go_roundw)
          case rel => exact ⟨K + 1, _, _, _, _, _, by omega, by simp, HR4.out⟩
          case measure => simp [intOf]; omega
        · go_simp
          obtain ⟨u0, hu0⟩ : ∃ u0, u0 = u2.alloc (.cells #[.int .i64 0, .slice none 0 0] 31) := ⟨_, rfl⟩
          obtain ⟨ba, hba⟩ : ∃ ba, ba = u2.heap.size := ⟨_, rfl⟩
          have K8 : Below wr.heap.size wr u0 := by rw [hu0]; exact hHeld.trans ((bnew _ _).mono hHeld.size)
          have KA : Hid (Blk u0 ba #[.int .i64 0, .slice none 0 0] 31) := by show Blk _ _ _ _; rw [hu0, hba]; exact zero_new _
          have HBA : Hid (wr.heap.size ≤ ba) := by show _ ≤ _; rw [hba]; exact hHeld.size
          rw [← hu0, ← hba]
          clear hu0 hba
          refine hK.out _ _ (K8) (fun hHeld => ?_)
          clear hK K
          try simp only [Act.put, List.setIfInBounds_toArray, List.set_cons_zero, List.set_cons_succ]
          refine wpAnyH_ready (rs := [3]) (by kernel_rfl) (by simp) ?_
          refine AllReadyH.cons (o := ⟨some 55, _, _, _, _, _⟩) rfl (fun K hK => ?_) AllReadyH.nil
          go_simp
          refine (HAD.out _ hHeld).mono ?_
          rintro q u3 ⟨A3, c3, rfl, hn⟩
          have HN := Lib.hid hn
          have K3 : Below wr.heap.size wr u3 := hHeld.trans (hn.b.mono hHeld.size)
          have LA := Lib.hid KA.out.lt
          have KA3 := Lib.hid (KA.out.below hn.b KA.out.lt)
          obtain ⟨t0, t1, tf0, tf1⟩ := KA3.out.two
          have lt3 := KA3.out.lt
          have HPV := Lib.hid hHeld
          clear hn
          go_simp
          refine hK.out _ _ (K3) (fun hHeld => ?_)
          clear hK K
          try simp only [Act.put, List.setIfInBounds_toArray, List.set_cons_zero, List.set_cons_succ]
          refine wpAnyH_take (i := 4) (oi := ⟨some 51, _, _, _, _, _⟩) (v := ?_) rfl (by kernel_rfl) (by kernel_rfl) (by kernel_rfl) (fun _ _ _ h => h) (Or.inl ⟨by rfl, ?_⟩) (by assumption) ?_
          rotate_left
          · intro w hSw; go_simp; first | done | with_reducible rfl
          try simp only [Act.put, List.setIfInBounds_toArray, List.set_cons_zero, List.set_cons_succ]
          refine wpAnyH_take (i := 5) (oi := ⟨some 56, _, _, _, _, _⟩) (v := ?_) rfl (by kernel_rfl) (by kernel_rfl) (by kernel_rfl) (fun _ _ _ h => h) (Or.inl ⟨by rfl, ?_⟩) (by assumption) ?_
          rotate_left
          · intro w hSw; go_simp; first | done | with_reducible rfl
          try simp only [Act.put, List.setIfInBounds_toArray, List.set_cons_zero, List.set_cons_succ]
          refine wpAnyH_take (i := 6) (oi := ⟨some 57, _, _, _, _, _⟩) (v := ?_) rfl (by kernel_rfl) (by kernel_rfl) (by kernel_rfl) (fun _ _ _ h => h) (Or.inl ⟨by rfl, ?_⟩) (by assumption) ?_
          rotate_left
          · intro w hSw; go_simp; first | done | with_reducible rfl
          try simp only [Act.put, List.setIfInBounds_toArray, List.set_cons_zero, List.set_cons_succ]
          refine wpAnyH_take (i := 7) (oi := ⟨some 58, _, _, _, _, _⟩) (v := ?_) rfl (by kernel_rfl) (by kernel_rfl) (by kernel_rfl) (fun _ _ _ h => h) (Or.inl ⟨by rfl, ?_⟩) (by assumption) ?_
          rotate_left
          · intro w hSw; go_simp; first | done | with_reducible rfl
          try simp only [Act.put, List.setIfInBounds_toArray, List.set_cons_zero, List.set_cons_succ]
          refine wpAnyH_ready (rs := [9]) (by kernel_rfl) (by simp) ?_
          refine AllReadyH.cons (o := ⟨none, _, _, _, _, _⟩) rfl (fun K hK => ?_) AllReadyH.nil
          go_simp
          refine hK.out _ _ (hHeld.trans ((put2_only u3 ba (.int .i64 400) (.slice A3 L.length c3)).below (fun j e => by have := HBA.out; omega) hHeld.size)) (fun hHeld => ?_)
          clear hK K
          try simp only [Act.put, List.setIfInBounds_toArray, List.set_cons_zero, List.set_cons_succ]
          refine wpAnyH_take (i := 10) (oi := ⟨some 10, _, _, _, _, _⟩) (v := ?_) rfl (by kernel_rfl) (by kernel_rfl) (by kernel_rfl) (fun _ _ _ h => h) (Or.inl ⟨by rfl, ?_⟩) (by assumption) ?_
          rotate_left
          · intro w hSw; go_simp; first | done | with_reducible rfl
          try simp only [Act.put, List.setIfInBounds_toArray, List.set_cons_zero, List.set_cons_succ]
          refine wpAnyH_take (i := 11) (oi := ⟨some 11, _, _, _, _, _⟩) (v := ?_) rfl (by kernel_rfl) (by kernel_rfl) (by kernel_rfl) (fun _ _ _ h => h) (Or.inl ⟨by rfl, ?_⟩) (by assumption) ?_
          rotate_left
          · intro w hSw; go_simp; first | done | with_reducible rfl
          try simp only [Act.put, List.setIfInBounds_toArray, List.set_cons_zero, List.set_cons_succ]
          refine wpAnyH_done (by kernel_rfl) ?_ _
          refine NoPanic.normal ?_
          first | refine NoPanic.normal ?_ | skip
          obtain ⟨u4, hu4⟩ : ∃ u4, u4 = put2 u3 ba (.int .i64 400) (.slice A3 L.length c3) := ⟨_, rfl⟩
          have HN4 : Hid (Nx G wr u4 L A3 c3) := by show Nx _ _ _ _ _ _; rw [hu4]; exact nx_early HN.out HPV.out HBA.out LA.out HGT.out _ _
          have KB : Hid (Blk u4 ba #[.int .i64 400, .slice A3 L.length c3] 31) := by show Blk _ _ _ _; rw [hu4]; exact put2_blk KA3.out _ _
          unfold put2 at hu4
          rw [← hu4]
          clear hu4 t0 t1 tf0 tf1 lt3
          clear M0 M1 lm hHeld
          go_wp2_with fail
          refine (HNA.out _).mono ?_
          rintro q u5 ⟨rfl, hb5⟩
          have HB5 := Lib.hid hb5
          have S5 := Lib.hid ((HR.out.st.below HN4.out.b).below hb5)
          have KB5 := Lib.hid (KB.out.below hb5 KB.out.lt)
          have hz4 := HN4.out.b.size
          have hz5 := hb5.size
          clear hb5
          have HAT := Lib.hid (adds_true S5.out (HR.out.f31 (by omega)) s (by omega) HV.out HE.out)
          go_wp2_with fail
          refine HAT.out.mono ?_
          rintro q u6 ⟨rfl, hg⟩
          rw [HL.out] at hg
          have HG := Lib.hid hg
          obtain ⟨_, _, _, ho6⟩ := hg
          have KB6 := Lib.hid (KB5.out.only ho6 (fun hf => by have := (HR.out.f _ hf).2.2; have := HBA.out; omega))
          have BM6 := Lib.hid (((HR.out.bm.below HN4.out.b HR.out.bm.lt).below HB5.out (by have := HR.out.bm.lt; omega)).only ho6 (fun hf => (HR.out.f _ hf).2.1 rfl))
          clear ho6 HAT
          obtain ⟨F4, G4, hro4⟩ := ro_next HR.out HN4.out HB5.out HG.out IV.out FI.out LE.out
          obtain ⟨s0, s1, _⟩ := KB6.out.two
          have ls := KB6.out.lt
          obtain ⟨n0, n1, nf0, nf1⟩ := BM6.out.two
          have ln := BM6.out.lt
          obtain ⟨u7, hu7⟩ : ∃ u7, u7 = put2 u6 M (.int .i64 400) (.slice A3 L.length c3) := ⟨_, rfl⟩
          rw [← hu7] at hro4
          have HR4 := Lib.hid hro4
          unfold put2 at hu7
          clear hro4
          go_wp2_with fail
          rw [← hu7]
          clear hu7 s0 s1 ls n0 n1 nf0 nf1 ln
          first | go_roundw | (go_wp2_with fail; go_roundw)
          case rel => exact ⟨K + 1, _, _, _, _, _, by omega, by simp, HR4.out⟩
          case measure => simp [intOf]; omega
      · go_simp
        obtain ⟨u0, hu0⟩ : ∃ u0, u0 = wq.alloc (.cells #[.int .i64 0, .slice none 0 0] 31) := ⟨_, rfl⟩
        obtain ⟨ba, hba⟩ : ∃ ba, ba = wq.heap.size := ⟨_, rfl⟩
        have K8 : Below wr.heap.size wr u0 := by rw [hu0]; exact hHeld.trans ((bnew _ _).mono hHeld.size)
        have KA : Hid (Blk u0 ba #[.int .i64 0, .slice none 0 0] 31) := by show Blk _ _ _ _; rw [hu0, hba]; exact zero_new _
        have HBA : Hid (wr.heap.size ≤ ba) := by show _ ≤ _; rw [hba]; exact hHeld.size
        rw [← hu0, ← hba]
        clear hu0 hba
        refine hK.out _ _ (K8) (fun hHeld => ?_)
        clear hK K
        try simp only [Act.put, List.setIfInBounds_toArray, List.set_cons_zero, List.set_cons_succ]
        refine wpAnyH_ready (rs := [2]) (by kernel_rfl) (by simp) ?_
        refine AllReadyH.cons (o := ⟨some 54, _, _, _, _, _⟩) rfl (fun K hK => ?_) AllReadyH.nil
        go_simp
        with_reducible refine (HNA.out _).mono ?_
        rintro q u2 ⟨rfl, hb⟩
        have K2 : Below wr.heap.size wr u2 := hHeld.trans (hb.mono hHeld.size)
        have KA := Lib.hid (KA.out.below hb KA.out.lt)
        clear hb
        go_simp
        refine hK.out _ _ (K2) (fun hHeld => ?_)
        clear hK K
        try simp only [Act.put, List.setIfInBounds_toArray, List.set_cons_zero, List.set_cons_succ]
        refine wpAnyH_ready (rs := [3]) (by kernel_rfl) (by simp) ?_
        refine AllReadyH.cons (o := ⟨some 55, _, _, _, _, _⟩) rfl (fun K hK => ?_) AllReadyH.nil
        go_simp
        refine (HAD.out _ hHeld).mono ?_
        rintro q u3 ⟨A3, c3, rfl, hn⟩
        have HN := Lib.hid hn
        have K3 : Below wr.heap.size wr u3 := hHeld.trans (hn.b.mono hHeld.size)
        have LA := Lib.hid KA.out.lt
        have KA3 := Lib.hid (KA.out.below hn.b KA.out.lt)
        obtain ⟨t0, t1, tf0, tf1⟩ := KA3.out.two
        have lt3 := KA3.out.lt
        have HPV := Lib.hid hHeld
        clear hn
        go_simp
        refine hK.out _ _ (K3) (fun hHeld => ?_)
        clear hK K
        try simp only [Act.put, List.setIfInBounds_toArray, List.set_cons_zero, List.set_cons_succ]
        refine wpAnyH_take (i := 4) (oi := ⟨some 51, _, _, _, _, _⟩) (v := ?_) rfl (by kernel_rfl) (by kernel_rfl) (by kernel_rfl) (fun _ _ _ h => h) (Or.inl ⟨by rfl, ?_⟩) (by assumption) ?_
        rotate_left
        · intro w hSw; go_simp; first | done | with_reducible rfl
        try simp only [Act.put, List.setIfInBounds_toArray, List.set_cons_zero, List.set_cons_succ]
        refine wpAnyH_take (i := 5) (oi := ⟨some 56, _, _, _, _, _⟩) (v := ?_) rfl (by kernel_rfl) (by kernel_rfl) (by kernel_rfl) (fun _ _ _ h => h) (Or.inl ⟨by rfl, ?_⟩) (by assumption) ?_
        rotate_left
        · intro w hSw; go_simp; first | done | with_reducible rfl
        try simp only [Act.put, List.setIfInBounds_toArray, List.set_cons_zero, List.set_cons_succ]
        refine wpAnyH_take (i := 6) (oi := ⟨some 57, _, _, _, _, _⟩) (v := ?_) rfl (by kernel_rfl) (by kernel_rfl) (by kernel_rfl) (fun _ _ _ h => h) (Or.inl ⟨by rfl, ?_⟩) (by assumption) ?_
        rotate_left
        · intro w hSw; go_simp; first | done | with_reducible rfl
        try simp only [Act.put, List.setIfInBounds_toArray, List.set_cons_zero, List.set_cons_succ]
        refine wpAnyH_take (i := 7) (oi := ⟨some 58, _, _, _, _, _⟩) (v := ?_) rfl (by kernel_rfl) (by kernel_rfl) (by kernel_rfl) (fun _ _ _ h => h) (Or.inl ⟨by rfl, ?_⟩) (by assumption) ?_
        rotate_left
        · intro w hSw; go_simp; first | done | with_reducible rfl
        try simp only [Act.put, List.setIfInBounds_toArray, List.set_cons_zero, List.set_cons_succ]
        refine wpAnyH_ready (rs := [9]) (by kernel_rfl) (by simp) ?_
        refine AllReadyH.cons (o := ⟨none, _, _, _, _, _⟩) rfl (fun K hK => ?_) AllReadyH.nil
        go_simp
        refine hK.out _ _ (hHeld.trans ((put2_only u3 ba (.int .i64 400) (.slice A3 L.length c3)).below (fun j e => by have := HBA.out; omega) hHeld.size)) (fun hHeld => ?_)
        clear hK K
        try simp only [Act.put, List.setIfInBounds_toArray, List.set_cons_zero, List.set_cons_succ]
        refine wpAnyH_take (i := 10) (oi := ⟨some 10, _, _, _, _, _⟩) (v := ?_) rfl (by kernel_rfl) (by kernel_rfl) (by kernel_rfl) (fun _ _ _ h => h) (Or.inl ⟨by rfl, ?_⟩) (by assumption) ?_
        rotate_left
        · intro w hSw; go_simp; first | done | with_reducible rfl
        try simp only [Act.put, List.setIfInBounds_toArray, List.set_cons_zero, List.set_cons_succ]
        refine wpAnyH_take (i := 11) (oi := ⟨some 11, _, _, _, _, _⟩) (v := ?_) rfl (by kernel_rfl) (by kernel_rfl) (by kernel_rfl) (fun _ _ _ h => h) (Or.inl ⟨by rfl, ?_⟩) (by assumption) ?_
        rotate_left
        · intro w hSw; go_simp; first | done | with_reducible rfl
        try simp only [Act.put, List.setIfInBounds_toArray, List.set_cons_zero, List.set_cons_succ]
        refine wpAnyH_done (by kernel_rfl) ?_ _
        refine NoPanic.normal ?_
        first | refine NoPanic.normal ?_ | skip
        obtain ⟨u4, hu4⟩ : ∃ u4, u4 = put2 u3 ba (.int .i64 400) (.slice A3 L.length c3) := ⟨_, rfl⟩
        have HN4 : Hid (Nx G wr u4 L A3 c3) := by show Nx _ _ _ _ _ _; rw [hu4]; exact nx_early HN.out HPV.out HBA.out LA.out HGT.out _ _
        have KB : Hid (Blk u4 ba #[.int .i64 400, .slice A3 L.length c3] 31) := by show Blk _ _ _ _; rw [hu4]; exact put2_blk KA3.out _ _
        unfold put2 at hu4
        rw [← hu4]
        clear hu4 t0 t1 tf0 tf1 lt3
        clear M0 M1 lm hHeld
        go_wp2_with fail
        refine (HNA.out _).mono ?_
        rintro q u5 ⟨rfl, hb5⟩
        have HB5 := Lib.hid hb5
        have S5 := Lib.hid ((HR.out.st.below HN4.out.b).below hb5)
        have KB5 := Lib.hid (KB.out.below hb5 KB.out.lt)
        have hz4 := HN4.out.b.size
        have hz5 := hb5.size
        clear hb5
        have HAT := Lib.hid (adds_true S5.out (HR.out.f31 (by omega)) s (by omega) HV.out HE.out)
        go_wp2_with fail
        refine HAT.out.mono ?_
        rintro q u6 ⟨rfl, hg⟩
        rw [HL.out] at hg
        have HG := Lib.hid hg
        obtain ⟨_, _, _, ho6⟩ := hg
        have KB6 := Lib.hid (KB5.out.only ho6 (fun hf => by have := (HR.out.f _ hf).2.2; have := HBA.out; omega))
        have BM6 := Lib.hid (((HR.out.bm.below HN4.out.b HR.out.bm.lt).below HB5.out (by have := HR.out.bm.lt; omega)).only ho6 (fun hf => (HR.out.f _ hf).2.1 rfl))
        clear ho6 HAT
        obtain ⟨F4, G4, hro4⟩ := ro_next HR.out HN4.out HB5.out HG.out IV.out FI.out LE.out
        obtain ⟨s0, s1, _⟩ := KB6.out.two
        have ls := KB6.out.lt
        obtain ⟨n0, n1, nf0, nf1⟩ := BM6.out.two
        have ln := BM6.out.lt
        obtain ⟨u7, hu7⟩ : ∃ u7, u7 = put2 u6 M (.int .i64 400) (.slice A3 L.length c3) := ⟨_, rfl⟩
        rw [← hu7] at hro4
        have HR4 := Lib.hid hro4
        unfold put2 at hu7
        clear hro4
        go_wp2_with fail
        rw [← hu7]
        clear hu7 s0 s1 ls n0 n1 nf0 nf1 ln
        first | go_roundw | (go_wp2_with fail; go_roundw)
        case rel => exact ⟨K + 1, _, _, _, _, _, by omega, by simp, HR4.out⟩
        case measure => simp [intOf]; omega
    · obtain rfl : K = n := by omega
      have hnn : ¬ (K : Int) < (K : Int) := by omega
      have HR1 := Lib.hid hro
      clear hlt hro hK
      go_wp2_with fail
      go_loopw [12] (fun i wr => ∃ (j : Int) (Q : Nat) (F G : Nat → Prop) (l : List Nr) (A2 : Option Addr) (c2 : Nat), -9 ≤ j ∧ j < (K : Int) ∧ (Q : Int) + j ≤ 800 ∧ i = .int .i64 j ∧ Ro W.heap.size M W 400 Q F G g l A2 c2 wr) (fun i _ => (intOf i + 10).toNat)
      case atStart => exact ⟨(K : Int) - 1, K, _, _, _, _, _, by omega, by omega, by omega, rfl, HR1.out⟩
      case round =>
        obtain ⟨j, Q, F, G, l, A2, c2, hj1, hj2, hQ, rfl, hro⟩ := hrel
        clear HR1
        by_cases hj0 : 0 ≤ j
        · have HR0 := Lib.hid hro
          clear hro
          have HC := Lib.hid (rel_any 400 j HR0.out.rt (by have := HR0.out.le; omega) (HR0.out.f40 (by omega)))
          unfold relPost tbV at HC
          have IV := Lib.hid (iv_rel HR0.out.iv j)
          have FI : Hid (Fine ((Q + 1 : Nat) : Int) (relL l j)) := fine_mono (fine_rel HR0.out.fi (by omega) j) (by omega)
          have LE : Hid ((relL l j).length ≤ Q + 1) := by show _ ≤ _; have := relL_len l j; have := HR0.out.le; omega
          obtain ⟨V, hV⟩ : ∃ V, V = relB l j := ⟨_, rfl⟩
          obtain ⟨E, hE⟩ : ∃ E, E = relE l j := ⟨_, rfl⟩
          obtain ⟨L, hL⟩ : ∃ L, L = relL l j := ⟨_, rfl⟩
          rw [← hV, ← hE, ← hL] at HC
          rw [← hL] at IV FI LE
          have HV := Lib.hid hV.symm; have HE := Lib.hid hE.symm; have HL := Lib.hid hL.symm
          clear hV hE hL
          obtain ⟨m0, m1, _⟩ := HR0.out.bm.two
          have lm := HR0.out.bm.lt
          go_wp2_with fail
          refine HC.out.mono ?_
          rintro q u1 ⟨A3, c3, rfl, hn⟩
          have HN := Lib.hid hn
          clear hn HC m0 m1 lm
          obtain ⟨u2, hu2⟩ : ∃ u2, u2 = u1.alloc (.cells #[.int .i64 400, .slice A3 L.length c3] 31) := ⟨_, rfl⟩
          obtain ⟨ba, hba⟩ : ∃ ba, ba = u1.heap.size := ⟨_, rfl⟩
          have HB2 : Hid (Below u1.heap.size u1 u2) := by show Below _ _ _; rw [hu2]; exact bnew _ _
          have KA : Hid (Blk u2 ba #[.int .i64 400, .slice A3 L.length c3] 31) := by show Blk _ _ _ _; rw [hu2, hba]; exact Blk.new _ _ _
          have hz1 := HN.out.b.size
          have hz2 := HB2.out.size
          have HNA2 : Hid (∀ j, F j → j ≠ ba) := fun j hj => by have := (HR0.out.f j hj).2.2; omega
          go_upto_region 18 with fail
          rw [← hu2, ← hba]
          clear hu2 hba
          have S2 := Lib.hid ((HR0.out.st.below HN.out.b).below HB2.out)
          have HAD := Lib.hid (frees_true S2.out j HV.out HE.out)
          go_wp2_with fail
          refine HAD.out.mono ?_
          rintro q u3 ⟨rfl, hg⟩
          rw [HL.out] at hg
          have HG := Lib.hid hg
          obtain ⟨_, _, _, ho3⟩ := hg
          have KA3 := Lib.hid (KA.out.only ho3 (fun hf => HNA2.out _ hf rfl))
          have BM3 := Lib.hid (((HR0.out.bm.below HN.out.b HR0.out.bm.lt).below HB2.out (by have := HR0.out.bm.lt; omega)).only ho3 (fun hf => (HR0.out.f _ hf).2.1 rfl))
          clear ho3 HAD
          obtain ⟨F4, G4, hro4⟩ := ro_next HR0.out HN.out HB2.out HG.out IV.out FI.out LE.out
          obtain ⟨s0, s1, _⟩ := KA3.out.two
          have ls := KA3.out.lt
          obtain ⟨n0, n1, nf0, nf1⟩ := BM3.out.two
          have ln := BM3.out.lt
          obtain ⟨u4, hu4⟩ : ∃ u4, u4 = put2 u3 M (.int .i64 400) (.slice A3 L.length c3) := ⟨_, rfl⟩
          rw [← hu4] at hro4
          have HR4 := Lib.hid hro4
          unfold put2 at hu4
          clear hro4
          go_wp2_with fail
          rw [← hu4]
          clear hu4 s0 s1 ls n0 n1 nf0 nf1 ln
          first | go_roundw | (go_wp2_with fail; go_roundw)
          case rel => exact ⟨j - every, Q + 1, _, _, _, _, _, by omega, by omega, by omega, rfl, HR4.out⟩
          case measure => simp [intOf]; omega
        · have HR5 := Lib.hid hro
          have hQ9 : Q ≤ 900 := by omega
          clear hro
          have HIS := Lib.hid (is_true HR5.out.st HR5.out.rt HR5.out.iv (by have := HR5.out.le; omega) ⟨#[110, 101, 119]⟩ (by decide) 0)
          unfold tbV boolTo at HIS
          obtain ⟨m0, m1, _⟩ := HR5.out.bm.two
          have lm := HR5.out.bm.lt
          go_wp2_with fail
          refine HIS.out.mono ?_
          rintro q u8 ⟨rfl, hb⟩
          have HR8 := Lib.hid (HR5.out.below hb)
          clear hb HIS m0 m1 lm
          go_wp2_with fail
          go_loopw [16] (fun i wr => ∃ (j : Int) (Q : Nat) (F G : Nat → Prop) (l : List Nr) (A2 : Option Addr) (c2 : Nat), 0 ≤ j ∧ j ≤ 409 ∧ (Q : Int) ≤ 900 + j ∧ i = .int .i64 j ∧ Ro W.heap.size M W 400 Q F G g l A2 c2 wr) (fun i _ => ((K : Int) - intOf i).toNat)
          case atStart => exact ⟨0, Q, _, _, _, _, _, by omega, by omega, by omega, rfl, HR8.out⟩
          case round =>
            obtain ⟨j, K9, F, G, l, A2, c2, hj3, hj4, hQ3, rfl, hro⟩ := hrel
            clear HR8 HR5
            by_cases hj5 : j < (K : Int)
            · have w1 : IntKind.i64.wrap (1000 + j) = 1000 + j := by rw [IntKind.wrap_i64]; omega
              go_upto_region 26 with fail
              have HNA : Hid (∀ v, Calls Try.prog 20 #[.int .i64 (1000 + j)] v (fun q w' => q = .returned (.string (nameS (1000 + j))) ∧ Below v.heap.size v w')) := fun v => name_any (1000 + j) (by omega) v
              have hns := nameS_size (1000 + j)
              obtain ⟨s, hs⟩ : ∃ s, s = nameS (1000 + j) := ⟨_, rfl⟩
              rw [← hs] at HNA hns
              have hns2 : s.size ≤ 7 := by omega
              clear hs hns
              have HR := Lib.hid hro
              have HAD : Hid (∀ v, Below wr.heap.size wr v → Calls Try.prog 13 #[.agg #[.int .i64 400, .slice A2 l.length c2], .string s] v (fun q u => ∃ A3 c3, q = .returned (.tuple #[.agg #[.int .i64 400, .slice A3 (addL 400 l s).length c3], .int .i64 (addV 400 l s), .int .i64 (addE 400 l s)]) ∧ Nx G v u (addL 400 l s) A3 c3)) := fun v hv => by
                have h := add_any 400 s (HR.out.rt.below hv (Nat.le_refl _)) (by have := HR.out.le; omega) (HR.out.f40 (by omega))
                unfold addPost tbV at h
                exact h
              have IV := Lib.hid (iv_add HR.out.iv 400 s)
              have FI : Hid (Fine ((K9 + 1 : Nat) : Int) (addL 400 l s)) := by have := fine_add HR.out.fi (by omega) s (most := 400); rw [show (((K9 + 1 : Nat)) : Int) = (K9 : Int) + 1 by omega]; exact this
              have LE : Hid ((addL 400 l s).length ≤ K9 + 1) := by show _ ≤ _; have := (addL_len 400 l s).2; have := HR.out.le; omega
              obtain ⟨V, hV⟩ : ∃ V, V = addV 400 l s := ⟨_, rfl⟩
              obtain ⟨E, hE⟩ : ∃ E, E = addE 400 l s := ⟨_, rfl⟩
              obtain ⟨L, hL⟩ : ∃ L, L = addL 400 l s := ⟨_, rfl⟩
              rw [← hV, ← hE, ← hL] at HAD
              rw [← hL] at IV FI LE
              have HV := Lib.hid hV.symm; have HE := Lib.hid hE.symm; have HL := Lib.hid hL.symm
              clear hV hE hL
              have HGT : Hid (∀ j, G j → j < wr.heap.size) := fun j hj => (HR.out.t j hj).2.2
              obtain ⟨m0, m1, _⟩ := HR.out.bm.two
              have lm := HR.out.bm.lt
              have M0 : ∀ v, Below wr.heap.size wr v → v.cell? ⟨M, 0, none⟩ = some (.int .i64 400) := fun v hv => (hv.cell lm).trans m0
              have M1 : ∀ v, Below wr.heap.size wr v → v.cell? ⟨M, 1, none⟩ = some (.slice A2 l.length c2) := fun v hv => (hv.cell lm).trans m1
              have D1 : Below wr.heap.size wr wr.drew := (Below.refl _ _).drew
              clear m0 m1 hro
              refine wp_region_noPanic ?_
              refine wp_region_held_drew (S := fun v => Below wr.heap.size wr v) (by kernel_rfl) (D1) (fun hHeld => ?_)
              obtain ⟨wq, hwq⟩ : ∃ wq, wq = wr.drew := ⟨_, rfl⟩
              rw [← hwq] at hHeld ⊢
              clear hwq
              refine wpAnyH_take (i := 0) (oi := ⟨some 101, _, _, _, _, _⟩) (v := ?_) rfl (by kernel_rfl) (by kernel_rfl) (by kernel_rfl) (fun _ _ _ h => h) (Or.inl ⟨by rfl, ?_⟩) (by assumption) ?_
              rotate_left
              · intro w hSw; go_simp; first | done | with_reducible rfl
              try simp only [Act.put, List.setIfInBounds_toArray, List.set_cons_zero, List.set_cons_succ]
              refine wpAnyH_take (i := 1) (oi := ⟨some 102, _, _, _, _, _⟩) (v := ?_) rfl (by kernel_rfl) (by kernel_rfl) (by kernel_rfl) (fun _ _ _ h => h) (Or.inl ⟨by rfl, ?_⟩) (by assumption) ?_
              rotate_left
              · intro w hSw; go_simp; first | done | with_reducible rfl
              try simp only [Act.put, List.setIfInBounds_toArray, List.set_cons_zero, List.set_cons_succ]
              refine wpAnyH_take (i := 2) (oi := ⟨some 103, _, _, _, _, _⟩) (v := ?_) rfl (by kernel_rfl) (by kernel_rfl) (by kernel_rfl) (fun _ _ _ h => h) (Or.inl ⟨by rfl, ?_⟩) (by assumption) ?_
              rotate_left
              · intro w hSw; go_simp; first | done | with_reducible rfl
              try simp only [Act.put, List.setIfInBounds_toArray, List.set_cons_zero, List.set_cons_succ]
              refine wpAnyH_ready (rs := [3, 9]) (by kernel_rfl) (by simp) ?_
              refine AllReadyH.cons (o := ⟨some 104, _, _, _, _, _⟩) rfl (fun K hK => ?_) (AllReadyH.cons (o := ⟨some 17, _, _, _, _, _⟩) rfl (fun K hK => ?_) AllReadyH.nil)
              · go_simp
                with_reducible refine (HNA.out _).mono ?_
                rintro q u2 ⟨rfl, hb⟩
                have K2 : Below wr.heap.size wr u2 := hHeld.trans (hb.mono hHeld.size)
                clear hb
                go_simp
                refine hK.out _ _ (K2) (fun hHeld => ?_)
                clear hK K
                try simp only [Act.put, List.setIfInBounds_toArray, List.set_cons_zero, List.set_cons_succ]
                refine wpAnyH_ready (rs := [4, 9]) (by kernel_rfl) (by simp) ?_
                refine AllReadyH.cons (o := ⟨some 105, _, _, _, _, _⟩) rfl (fun K hK => ?_) (AllReadyH.cons (o := ⟨some 17, _, _, _, _, _⟩) rfl (fun K hK => ?_) AllReadyH.nil)
                · go_simp
                  refine (HAD.out _ hHeld).mono ?_
                  rintro q u3 ⟨A3, c3, rfl, hn⟩
                  have HN := Lib.hid hn
                  have K3 : Below wr.heap.size wr u3 := hHeld.trans (hn.b.mono hHeld.size)
                  have HPV := Lib.hid hHeld
                  clear hn
                  go_simp
                  refine hK.out _ _ (K3) (fun hHeld => ?_)
                  clear hK K
                  try simp only [Act.put, List.setIfInBounds_toArray, List.set_cons_zero, List.set_cons_succ]
                  refine wpAnyH_take (i := 5) (oi := ⟨some 100, _, _, _, _, _⟩) (v := ?_) rfl (by kernel_rfl) (by kernel_rfl) (by kernel_rfl) (fun _ _ _ h => h) (Or.inl ⟨by rfl, ?_⟩) (by assumption) ?_
                  rotate_left
                  · intro w hSw; go_simp; first | done | with_reducible rfl
                  try simp only [Act.put, List.setIfInBounds_toArray, List.set_cons_zero, List.set_cons_succ]
                  refine wpAnyH_take (i := 6) (oi := ⟨some 106, _, _, _, _, _⟩) (v := ?_) rfl (by kernel_rfl) (by kernel_rfl) (by kernel_rfl) (fun _ _ _ h => h) (Or.inl ⟨by rfl, ?_⟩) (by assumption) ?_
                  rotate_left
                  · intro w hSw; go_simp; first | done | with_reducible rfl
                  try simp only [Act.put, List.setIfInBounds_toArray, List.set_cons_zero, List.set_cons_succ]
                  refine wpAnyH_take (i := 7) (oi := ⟨some 107, _, _, _, _, _⟩) (v := ?_) rfl (by kernel_rfl) (by kernel_rfl) (by kernel_rfl) (fun _ _ _ h => h) (Or.inl ⟨by rfl, ?_⟩) (by assumption) ?_
                  rotate_left
                  · intro w hSw; go_simp; first | done | with_reducible rfl
                  try simp only [Act.put, List.setIfInBounds_toArray, List.set_cons_zero, List.set_cons_succ]
                  refine wpAnyH_take (i := 8) (oi := ⟨some 108, _, _, _, _, _⟩) (v := ?_) rfl (by kernel_rfl) (by kernel_rfl) (by kernel_rfl) (fun _ _ _ h => h) (Or.inl ⟨by rfl, ?_⟩) (by assumption) ?_
                  rotate_left
                  · intro w hSw; go_simp; first | done | with_reducible rfl
                  try simp only [Act.put, List.setIfInBounds_toArray, List.set_cons_zero, List.set_cons_succ]
                  refine wpAnyH_ready (rs := [9]) (by kernel_rfl) (by simp) ?_
                  refine AllReadyH.cons (o := ⟨some 17, _, _, _, _, _⟩) rfl (fun K hK => ?_) AllReadyH.nil
                  go_simp
                  have K8 : Below wr.heap.size wr (u3.alloc (.cells #[.int .i64 0, .slice none 0 0] 31)) := hHeld.trans ((bnew _ _).mono hHeld.size)
                  refine hK.out _ _ (K8) (fun hHeld => ?_)
                  clear hK K
                  try simp only [Act.put, List.setIfInBounds_toArray, List.set_cons_zero, List.set_cons_succ]
                  refine wpAnyH_ready (rs := [10]) (by kernel_rfl) (by simp) ?_
                  refine AllReadyH.cons (o := ⟨none, _, _, _, _, _⟩) rfl (fun K hK => ?_) AllReadyH.nil
                  go_simp
                  refine hK.out _ _ (K3.trans ((bnew _ _).mono K3.size)) (fun hHeld => ?_)
                  clear hK K
                  try simp only [Act.put, List.setIfInBounds_toArray, List.set_cons_zero, List.set_cons_succ]
                  refine wpAnyH_take (i := 11) (oi := ⟨some 18, _, _, _, _, _⟩) (v := ?_) rfl (by kernel_rfl) (by kernel_rfl) (by kernel_rfl) (fun _ _ _ h => h) (Or.inl ⟨by rfl, ?_⟩) (by assumption) ?_
                  rotate_left
                  · intro w hSw; go_simp; first | done | with_reducible rfl
                  try simp only [Act.put, List.setIfInBounds_toArray, List.set_cons_zero, List.set_cons_succ]
                  refine wpAnyH_take (i := 12) (oi := ⟨some 19, _, _, _, _, _⟩) (v := ?_) rfl (by kernel_rfl) (by kernel_rfl) (by kernel_rfl) (fun _ _ _ h => h) (Or.inl ⟨by rfl, ?_⟩) (by assumption) ?_
                  rotate_left
                  · intro w hSw; go_simp; first | done | with_reducible rfl
                  try simp only [Act.put, List.setIfInBounds_toArray, List.set_cons_zero, List.set_cons_succ]
                  refine wpAnyH_done (by kernel_rfl) ?_ _
                  refine NoPanic.normal ?_
                  first | refine NoPanic.normal ?_ | skip
                  obtain ⟨u4, hu4⟩ : ∃ u4, u4 = u3.alloc (.cells #[.int .i64 400, .slice A3 L.length c3] 31) := ⟨_, rfl⟩
                  obtain ⟨ba, hba⟩ : ∃ ba, ba = u3.heap.size := ⟨_, rfl⟩
                  have HN4 : Hid (Nx G wr u4 L A3 c3) := by show Nx _ _ _ _ _ _; rw [hu4]; exact nx_last HN.out HPV.out _
                  have KB : Hid (Blk u4 ba #[.int .i64 400, .slice A3 L.length c3] 31) := by show Blk _ _ _ _; rw [hu4, hba]; exact Blk.new _ _ _
                  have HBA : Hid (wr.heap.size ≤ ba) := by show _ ≤ _; rw [hba]; exact K3.size
                  rw [← hu4, ← hba]
                  clear hu4 hba
                  clear M0 M1 lm hHeld
                  go_wp2_with fail
                  refine (HNA.out _).mono ?_
                  rintro q u5 ⟨rfl, hb5⟩
                  have HB5 := Lib.hid hb5
                  have S5 := Lib.hid ((HR.out.st.below HN4.out.b).below hb5)
                  have KB5 := Lib.hid (KB.out.below hb5 KB.out.lt)
                  have hz4 := HN4.out.b.size
                  have hz5 := hb5.size
                  clear hb5
                  have HAT := Lib.hid (adds_true S5.out (HR.out.f31 (by omega)) s (by omega) HV.out HE.out)
                  go_wp2_with fail
                  refine HAT.out.mono ?_
                  rintro q u6 ⟨rfl, hg⟩
                  rw [HL.out] at hg
                  have HG := Lib.hid hg
                  obtain ⟨_, _, _, ho6⟩ := hg
                  have KB6 := Lib.hid (KB5.out.only ho6 (fun hf => by have := (HR.out.f _ hf).2.2; have := HBA.out; omega))
                  have BM6 := Lib.hid (((HR.out.bm.below HN4.out.b HR.out.bm.lt).below HB5.out (by have := HR.out.bm.lt; omega)).only ho6 (fun hf => (HR.out.f _ hf).2.1 rfl))
                  clear ho6 HAT
                  obtain ⟨F4, G4, hro4⟩ := ro_next HR.out HN4.out HB5.out HG.out IV.out FI.out LE.out
                  obtain ⟨s0, s1, _⟩ := KB6.out.two
                  have ls := KB6.out.lt
                  obtain ⟨n0, n1, nf0, nf1⟩ := BM6.out.two
                  have ln := BM6.out.lt
                  obtain ⟨u7, hu7⟩ : ∃ u7, u7 = put2 u6 M (.int .i64 400) (.slice A3 L.length c3) := ⟨_, rfl⟩
                  rw [← hu7] at hro4
                  have HR4 := Lib.hid hro4
                  unfold put2 at hu7
                  clear hro4
                  go_wp2_with fail
                  rw [← hu7]
                  clear hu7 s0 s1 ls n0 n1 nf0 nf1 ln
                  first | go_roundw | (go_wp2_with fail; go_roundw)
                  case rel => exact ⟨j + every, K9 + 1, _, _, _, _, _, by omega, by omega, by omega, rfl, HR4.out⟩
                  case measure => simp [intOf]; omega
                · go_simp
                  obtain ⟨u0, hu0⟩ : ∃ u0, u0 = u2.alloc (.cells #[.int .i64 0, .slice none 0 0] 31) := ⟨_, rfl⟩
                  obtain ⟨ba, hba⟩ : ∃ ba, ba = u2.heap.size := ⟨_, rfl⟩
                  have K8 : Below wr.heap.size wr u0 := by rw [hu0]; exact hHeld.trans ((bnew _ _).mono hHeld.size)
                  have KA : Hid (Blk u0 ba #[.int .i64 0, .slice none 0 0] 31) := by show Blk _ _ _ _; rw [hu0, hba]; exact zero_new _
                  have HBA : Hid (wr.heap.size ≤ ba) := by show _ ≤ _; rw [hba]; exact hHeld.size
                  rw [← hu0, ← hba]
                  clear hu0 hba
                  refine hK.out _ _ (K8) (fun hHeld => ?_)
                  clear hK K
                  try simp only [Act.put, List.setIfInBounds_toArray, List.set_cons_zero, List.set_cons_succ]
                  refine wpAnyH_ready (rs := [4]) (by kernel_rfl) (by simp) ?_
                  refine AllReadyH.cons (o := ⟨some 105, _, _, _, _, _⟩) rfl (fun K hK => ?_) AllReadyH.nil
                  go_simp
                  refine (HAD.out _ hHeld).mono ?_
                  rintro q u3 ⟨A3, c3, rfl, hn⟩
                  have HN := Lib.hid hn
                  have K3 : Below wr.heap.size wr u3 := hHeld.trans (hn.b.mono hHeld.size)
                  have LA := Lib.hid KA.out.lt
                  have KA3 := Lib.hid (KA.out.below hn.b KA.out.lt)
                  obtain ⟨t0, t1, tf0, tf1⟩ := KA3.out.two
                  have lt3 := KA3.out.lt
                  have HPV := Lib.hid hHeld
                  clear hn
                  go_simp
                  refine hK.out _ _ (K3) (fun hHeld => ?_)
                  clear hK K
                  try simp only [Act.put, List.setIfInBounds_toArray, List.set_cons_zero, List.set_cons_succ]
                  refine wpAnyH_take (i := 5) (oi := ⟨some 100, _, _, _, _, _⟩) (v := ?_) rfl (by kernel_rfl) (by kernel_rfl) (by kernel_rfl) (fun _ _ _ h => h) (Or.inl ⟨by rfl, ?_⟩) (by assumption) ?_
                  rotate_left
                  · intro w hSw; go_simp; first | done | with_reducible rfl
                  try simp only [Act.put, List.setIfInBounds_toArray, List.set_cons_zero, List.set_cons_succ]
                  refine wpAnyH_take (i := 6) (oi := ⟨some 106, _, _, _, _, _⟩) (v := ?_) rfl (by kernel_rfl) (by kernel_rfl) (by kernel_rfl) (fun _ _ _ h => h) (Or.inl ⟨by rfl, ?_⟩) (by assumption) ?_
                  rotate_left
                  · intro w hSw; go_simp; first | done | with_reducible rfl
                  try simp only [Act.put, List.setIfInBounds_toArray, List.set_cons_zero, List.set_cons_succ]
                  refine wpAnyH_take (i := 7) (oi := ⟨some 107, _, _, _, _, _⟩) (v := ?_) rfl (by kernel_rfl) (by kernel_rfl) (by kernel_rfl) (fun _ _ _ h => h) (Or.inl ⟨by rfl, ?_⟩) (by assumption) ?_
                  rotate_left
                  · intro w hSw; go_simp; first | done | with_reducible rfl
                  try simp only [Act.put, List.setIfInBounds_toArray, List.set_cons_zero, List.set_cons_succ]
                  refine wpAnyH_take (i := 8) (oi := ⟨some 108, _, _, _, _, _⟩) (v := ?_) rfl (by kernel_rfl) (by kernel_rfl) (by kernel_rfl) (fun _ _ _ h => h) (Or.inl ⟨by rfl, ?_⟩) (by assumption) ?_
                  rotate_left
                  · intro w hSw; go_simp; first | done | with_reducible rfl
                  try simp only [Act.put, List.setIfInBounds_toArray, List.set_cons_zero, List.set_cons_succ]
                  refine wpAnyH_ready (rs := [10]) (by kernel_rfl) (by simp) ?_
                  refine AllReadyH.cons (o := ⟨none, _, _, _, _, _⟩) rfl (fun K hK => ?_) AllReadyH.nil
                  go_simp
                  refine hK.out _ _ (hHeld.trans ((put2_only u3 ba (.int .i64 400) (.slice A3 L.length c3)).below (fun j e => by have := HBA.out; omega) hHeld.size)) (fun hHeld => ?_)
                  clear hK K
                  try simp only [Act.put, List.setIfInBounds_toArray, List.set_cons_zero, List.set_cons_succ]
                  refine wpAnyH_take (i := 11) (oi := ⟨some 18, _, _, _, _, _⟩) (v := ?_) rfl (by kernel_rfl) (by kernel_rfl) (by kernel_rfl) (fun _ _ _ h => h) (Or.inl ⟨by rfl, ?_⟩) (by assumption) ?_
                  rotate_left
                  · intro w hSw; go_simp; first | done | with_reducible rfl
                  try simp only [Act.put, List.setIfInBounds_toArray, List.set_cons_zero, List.set_cons_succ]
                  refine wpAnyH_take (i := 12) (oi := ⟨some 19, _, _, _, _, _⟩) (v := ?_) rfl (by kernel_rfl) (by kernel_rfl) (by kernel_rfl) (fun _ _ _ h => h) (Or.inl ⟨by rfl, ?_⟩) (by assumption) ?_
                  rotate_left
                  · intro w hSw; go_simp; first | done | with_reducible rfl
                  try simp only [Act.put, List.setIfInBounds_toArray, List.set_cons_zero, List.set_cons_succ]
                  refine wpAnyH_done (by kernel_rfl) ?_ _
                  refine NoPanic.normal ?_
                  first | refine NoPanic.normal ?_ | skip
                  obtain ⟨u4, hu4⟩ : ∃ u4, u4 = put2 u3 ba (.int .i64 400) (.slice A3 L.length c3) := ⟨_, rfl⟩
                  have HN4 : Hid (Nx G wr u4 L A3 c3) := by show Nx _ _ _ _ _ _; rw [hu4]; exact nx_early HN.out HPV.out HBA.out LA.out HGT.out _ _
                  have KB : Hid (Blk u4 ba #[.int .i64 400, .slice A3 L.length c3] 31) := by show Blk _ _ _ _; rw [hu4]; exact put2_blk KA3.out _ _
                  unfold put2 at hu4
                  rw [← hu4]
                  clear hu4 t0 t1 tf0 tf1 lt3
                  clear M0 M1 lm hHeld
                  go_wp2_with fail
                  refine (HNA.out _).mono ?_
                  rintro q u5 ⟨rfl, hb5⟩
                  have HB5 := Lib.hid hb5
                  have S5 := Lib.hid ((HR.out.st.below HN4.out.b).below hb5)
                  have KB5 := Lib.hid (KB.out.below hb5 KB.out.lt)
                  have hz4 := HN4.out.b.size
                  have hz5 := hb5.size
                  clear hb5
                  have HAT := Lib.hid (adds_true S5.out (HR.out.f31 (by omega)) s (by omega) HV.out HE.out)
                  go_wp2_with fail
                  refine HAT.out.mono ?_
                  rintro q u6 ⟨rfl, hg⟩
                  rw [HL.out] at hg
                  have HG := Lib.hid hg
                  obtain ⟨_, _, _, ho6⟩ := hg
                  have KB6 := Lib.hid (KB5.out.only ho6 (fun hf => by have := (HR.out.f _ hf).2.2; have := HBA.out; omega))
                  have BM6 := Lib.hid (((HR.out.bm.below HN4.out.b HR.out.bm.lt).below HB5.out (by have := HR.out.bm.lt; omega)).only ho6 (fun hf => (HR.out.f _ hf).2.1 rfl))
                  clear ho6 HAT
                  obtain ⟨F4, G4, hro4⟩ := ro_next HR.out HN4.out HB5.out HG.out IV.out FI.out LE.out
                  obtain ⟨s0, s1, _⟩ := KB6.out.two
                  have ls := KB6.out.lt
                  obtain ⟨n0, n1, nf0, nf1⟩ := BM6.out.two
                  have ln := BM6.out.lt
                  obtain ⟨u7, hu7⟩ : ∃ u7, u7 = put2 u6 M (.int .i64 400) (.slice A3 L.length c3) := ⟨_, rfl⟩
                  rw [← hu7] at hro4
                  have HR4 := Lib.hid hro4
                  unfold put2 at hu7
                  clear hro4
                  go_wp2_with fail
                  rw [← hu7]
                  clear hu7 s0 s1 ls n0 n1 nf0 nf1 ln
                  first | go_roundw | (go_wp2_with fail; go_roundw)
                  case rel => exact ⟨j + every, K9 + 1, _, _, _, _, _, by omega, by omega, by omega, rfl, HR4.out⟩
                  case measure => simp [intOf]; omega
              · go_simp
                obtain ⟨u0, hu0⟩ : ∃ u0, u0 = wq.alloc (.cells #[.int .i64 0, .slice none 0 0] 31) := ⟨_, rfl⟩
                obtain ⟨ba, hba⟩ : ∃ ba, ba = wq.heap.size := ⟨_, rfl⟩
                have K8 : Below wr.heap.size wr u0 := by rw [hu0]; exact hHeld.trans ((bnew _ _).mono hHeld.size)
                have KA : Hid (Blk u0 ba #[.int .i64 0, .slice none 0 0] 31) := by show Blk _ _ _ _; rw [hu0, hba]; exact zero_new _
                have HBA : Hid (wr.heap.size ≤ ba) := by show _ ≤ _; rw [hba]; exact hHeld.size
                rw [← hu0, ← hba]
                clear hu0 hba
                refine hK.out _ _ (K8) (fun hHeld => ?_)
                clear hK K
                try simp only [Act.put, List.setIfInBounds_toArray, List.set_cons_zero, List.set_cons_succ]
                refine wpAnyH_ready (rs := [3]) (by kernel_rfl) (by simp) ?_
                refine AllReadyH.cons (o := ⟨some 104, _, _, _, _, _⟩) rfl (fun K hK => ?_) AllReadyH.nil
                go_simp
                with_reducible refine (HNA.out _).mono ?_
                rintro q u2 ⟨rfl, hb⟩
                have K2 : Below wr.heap.size wr u2 := hHeld.trans (hb.mono hHeld.size)
                have KA := Lib.hid (KA.out.below hb KA.out.lt)
                clear hb
                go_simp
                refine hK.out _ _ (K2) (fun hHeld => ?_)
                clear hK K
                try simp only [Act.put, List.setIfInBounds_toArray, List.set_cons_zero, List.set_cons_succ]
                refine wpAnyH_ready (rs := [4]) (by kernel_rfl) (by simp) ?_
                refine AllReadyH.cons (o := ⟨some 105, _, _, _, _, _⟩) rfl (fun K hK => ?_) AllReadyH.nil
                go_simp
                refine (HAD.out _ hHeld).mono ?_
                rintro q u3 ⟨A3, c3, rfl, hn⟩
                have HN := Lib.hid hn
                have K3 : Below wr.heap.size wr u3 := hHeld.trans (hn.b.mono hHeld.size)
                have LA := Lib.hid KA.out.lt
                have KA3 := Lib.hid (KA.out.below hn.b KA.out.lt)
                obtain ⟨t0, t1, tf0, tf1⟩ := KA3.out.two
                have lt3 := KA3.out.lt
                have HPV := Lib.hid hHeld
                clear hn
                go_simp
                refine hK.out _ _ (K3) (fun hHeld => ?_)
                clear hK K
                try simp only [Act.put, List.setIfInBounds_toArray, List.set_cons_zero, List.set_cons_succ]
                refine wpAnyH_take (i := 5) (oi := ⟨some 100, _, _, _, _, _⟩) (v := ?_) rfl (by kernel_rfl) (by kernel_rfl) (by kernel_rfl) (fun _ _ _ h => h) (Or.inl ⟨by rfl, ?_⟩) (by assumption) ?_
                rotate_left
                · intro w hSw; go_simp; first | done | with_reducible rfl
                try simp only [Act.put, List.setIfInBounds_toArray, List.set_cons_zero, List.set_cons_succ]
                refine wpAnyH_take (i := 6) (oi := ⟨some 106, _, _, _, _, _⟩) (v := ?_) rfl (by kernel_rfl) (by kernel_rfl) (by kernel_rfl) (fun _ _ _ h => h) (Or.inl ⟨by rfl, ?_⟩) (by assumption) ?_
                rotate_left
                · intro w hSw; go_simp; first | done | with_reducible rfl
                try simp only [Act.put, List.setIfInBounds_toArray, List.set_cons_zero, List.set_cons_succ]
                refine wpAnyH_take (i := 7) (oi := ⟨some 107, _, _, _, _, _⟩) (v := ?_) rfl (by kernel_rfl) (by kernel_rfl) (by kernel_rfl) (fun _ _ _ h => h) (Or.inl ⟨by rfl, ?_⟩) (by assumption) ?_
                rotate_left
                · intro w hSw; go_simp; first | done | with_reducible rfl
                try simp only [Act.put, List.setIfInBounds_toArray, List.set_cons_zero, List.set_cons_succ]
                refine wpAnyH_take (i := 8) (oi := ⟨some 108, _, _, _, _, _⟩) (v := ?_) rfl (by kernel_rfl) (by kernel_rfl) (by kernel_rfl) (fun _ _ _ h => h) (Or.inl ⟨by rfl, ?_⟩) (by assumption) ?_
                rotate_left
                · intro w hSw; go_simp; first | done | with_reducible rfl
                try simp only [Act.put, List.setIfInBounds_toArray, List.set_cons_zero, List.set_cons_succ]
                refine wpAnyH_ready (rs := [10]) (by kernel_rfl) (by simp) ?_
                refine AllReadyH.cons (o := ⟨none, _, _, _, _, _⟩) rfl (fun K hK => ?_) AllReadyH.nil
                go_simp
                refine hK.out _ _ (hHeld.trans ((put2_only u3 ba (.int .i64 400) (.slice A3 L.length c3)).below (fun j e => by have := HBA.out; omega) hHeld.size)) (fun hHeld => ?_)
                clear hK K
                try simp only [Act.put, List.setIfInBounds_toArray, List.set_cons_zero, List.set_cons_succ]
                refine wpAnyH_take (i := 11) (oi := ⟨some 18, _, _, _, _, _⟩) (v := ?_) rfl (by kernel_rfl) (by kernel_rfl) (by kernel_rfl) (fun _ _ _ h => h) (Or.inl ⟨by rfl, ?_⟩) (by assumption) ?_
                rotate_left
                · intro w hSw; go_simp; first | done | with_reducible rfl
                try simp only [Act.put, List.setIfInBounds_toArray, List.set_cons_zero, List.set_cons_succ]
                refine wpAnyH_take (i := 12) (oi := ⟨some 19, _, _, _, _, _⟩) (v := ?_) rfl (by kernel_rfl) (by kernel_rfl) (by kernel_rfl) (fun _ _ _ h => h) (Or.inl ⟨by rfl, ?_⟩) (by assumption) ?_
                rotate_left
                · intro w hSw; go_simp; first | done | with_reducible rfl
                try simp only [Act.put, List.setIfInBounds_toArray, List.set_cons_zero, List.set_cons_succ]
                refine wpAnyH_done (by kernel_rfl) ?_ _
                refine NoPanic.normal ?_
                first | refine NoPanic.normal ?_ | skip
                obtain ⟨u4, hu4⟩ : ∃ u4, u4 = put2 u3 ba (.int .i64 400) (.slice A3 L.length c3) := ⟨_, rfl⟩
                have HN4 : Hid (Nx G wr u4 L A3 c3) := by show Nx _ _ _ _ _ _; rw [hu4]; exact nx_early HN.out HPV.out HBA.out LA.out HGT.out _ _
                have KB : Hid (Blk u4 ba #[.int .i64 400, .slice A3 L.length c3] 31) := by show Blk _ _ _ _; rw [hu4]; exact put2_blk KA3.out _ _
                unfold put2 at hu4
                rw [← hu4]
                clear hu4 t0 t1 tf0 tf1 lt3
                clear M0 M1 lm hHeld
                go_wp2_with fail
                refine (HNA.out _).mono ?_
                rintro q u5 ⟨rfl, hb5⟩
                have HB5 := Lib.hid hb5
                have S5 := Lib.hid ((HR.out.st.below HN4.out.b).below hb5)
                have KB5 := Lib.hid (KB.out.below hb5 KB.out.lt)
                have hz4 := HN4.out.b.size
                have hz5 := hb5.size
                clear hb5
                have HAT := Lib.hid (adds_true S5.out (HR.out.f31 (by omega)) s (by omega) HV.out HE.out)
                go_wp2_with fail
                refine HAT.out.mono ?_
                rintro q u6 ⟨rfl, hg⟩
                rw [HL.out] at hg
                have HG := Lib.hid hg
                obtain ⟨_, _, _, ho6⟩ := hg
                have KB6 := Lib.hid (KB5.out.only ho6 (fun hf => by have := (HR.out.f _ hf).2.2; have := HBA.out; omega))
                have BM6 := Lib.hid (((HR.out.bm.below HN4.out.b HR.out.bm.lt).below HB5.out (by have := HR.out.bm.lt; omega)).only ho6 (fun hf => (HR.out.f _ hf).2.1 rfl))
                clear ho6 HAT
                obtain ⟨F4, G4, hro4⟩ := ro_next HR.out HN4.out HB5.out HG.out IV.out FI.out LE.out
                obtain ⟨s0, s1, _⟩ := KB6.out.two
                have ls := KB6.out.lt
                obtain ⟨n0, n1, nf0, nf1⟩ := BM6.out.two
                have ln := BM6.out.lt
                obtain ⟨u7, hu7⟩ : ∃ u7, u7 = put2 u6 M (.int .i64 400) (.slice A3 L.length c3) := ⟨_, rfl⟩
                rw [← hu7] at hro4
                have HR4 := Lib.hid hro4
                unfold put2 at hu7
                clear hro4
                go_wp2_with fail
                rw [← hu7]
                clear hu7 s0 s1 ls n0 n1 nf0 nf1 ln
                first | go_roundw | (go_wp2_with fail; go_roundw)
                case rel => exact ⟨j + every, K9 + 1, _, _, _, _, _, by omega, by omega, by omega, rfl, HR4.out⟩
                case measure => simp [intOf]; omega
            · have HR6 := Lib.hid hro
              clear hro
              have HIS := Lib.hid (is_true HR6.out.st HR6.out.rt HR6.out.iv (by have := HR6.out.le; omega) ⟨#[110, 101, 119]⟩ (by decide) (K : Int))
              unfold tbV boolTo at HIS
              obtain ⟨m0, m1, _⟩ := HR6.out.bm.two
              have lm := HR6.out.bm.lt
              go_wp2_with fail
              refine HIS.out.mono ?_
              rintro q u8 ⟨rfl, hb⟩
              have HB8 := Lib.hid (HR6.out.bl.trans (hb.mono HR6.out.bl.size))
              clear hb HIS m0 m1 lm
              go_wp2_with fail
              refine (known_any _).mono ?_
              rintro q w9 ⟨rfl, hb⟩
              have HB9 := Lib.hid (HB8.out.trans (hb.mono HB8.out.size))
              clear hb
              go_wp2_with fail
              go_ret
              exact ⟨rfl, HB9.out⟩
end
end Go.Proofs.Ytmhbfplpodikiaa.An
