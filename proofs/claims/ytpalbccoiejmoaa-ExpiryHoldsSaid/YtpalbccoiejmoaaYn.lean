/- Proves that ExpiryHolds returns true at every argument. Conditions: as the row gives them. -/
import Derived.Test.YtpalbccoiejmoaaYm
import Derived.Deep.RegionHeld3
namespace Go.Proofs.Ytpalbccoiejmoaa.Yn
open Go.RowKit Ap Mi Nw Ya Yb Yc Yd Ye Yf Yg Yh Yi Ym
open Yk (Ac acL acL_get acL_len)

theorem due_later {d now later : Int} (h : isDue d now) (hl : now ≤ later) : isDue d later := ⟨h.1, Int.le_trans h.2 hl⟩
/-- Due at a time and then at a later one. -/
theorem dueK_two {L : List Td} (h : Srt L) {now later : Int} (hl : now ≤ later) : dueK L later = dueK L now + dueK (L.drop (dueK L now)) later := by
  obtain ⟨k, hk⟩ : ∃ k, k = dueK L now := ⟨_, rfl⟩
  have h1 := (due_take (now := now) h).1
  have hle := dueK_le L now
  rw [← hk] at h1 hle ⊢
  have e : L.takeWhile (fun y => decide (isDue y.2 later)) = L.take k ++ (L.drop k).takeWhile (fun y => decide (isDue y.2 later)) := by
    conv => lhs; rw [← List.take_append_drop k L]
    exact List.takeWhile_append_of_pos (fun x hx => by simpa using due_later (h1 x hx) hl)
  unfold dueK
  rw [e, List.length_append, List.length_take, Nat.min_eq_left hle]
/-- Two heaps of the call's own, and lists outside of them. -/
def B3 (N : Nat) (w : World) (g1 g2 : Nat) (L1 L2 : List Td) (Os : List (Option Addr × List Td × Nat)) : Prop :=
  ∃ F1 F2, Hp F1 w g1 L1 ∧ Hp F2 w g2 L2 ∧ (∀ j, F1 j → N ≤ j ∧ j < w.heap.size ∧ ¬ F2 j) ∧ (∀ j, F2 j → N ≤ j ∧ j < w.heap.size) ∧ (∀ o ∈ Os, Ot F1 F2 w o.1 o.2.1 o.2.2) ∧ N ≤ w.heap.size
section
variable {N : Nat} {w w' : World} {g1 g2 : Nat} {L1 L2 L M : List Td} {A E : Option Addr} {c d : Nat} {Os : List (Option Addr × List Td × Nat)}
theorem B3.sz (h : B3 N w g1 g2 L1 L2 Os) : N ≤ w.heap.size := by obtain ⟨_, _, _, _, _, _, _, h⟩ := h; exact h
theorem B3.li (h : B3 N w g1 g2 L1 L2 Os) (hm : (A, L, c) ∈ Os) : Lt w A L c := by obtain ⟨_, _, _, _, _, _, h, _⟩ := h; exact (h _ hm).1
theorem B3.below (h : B3 N w g1 g2 L1 L2 Os) (hb : Below w.heap.size w w') : B3 N w' g1 g2 L1 L2 Os := by
  obtain ⟨F1, F2, h1, h2, h3, h4, h5, h7⟩ := h
  have hz := hb.size
  exact ⟨F1, F2, h1.below hb (Nat.le_refl _), h2.below hb (Nat.le_refl _), fun j hj => ⟨(h3 j hj).1, by have := (h3 j hj).2.1; omega, (h3 j hj).2.2⟩, fun j hj => ⟨(h4 j hj).1, by have := (h4 j hj).2; omega⟩, fun o ho => (h5 o ho).below hb, by omega⟩
theorem B3.due1 (h : B3 N w g1 g2 L1 L2 Os) (now : Int) {M T : List Td} (hM : M = L1.take (dueK L1 now)) (hT : T = L1.drop (dueK L1 now)) :
    Calls Try.prog 26 #[.pointer (some ⟨g1, 0, none⟩), .int .u64 now] w fun q w' => ∃ A c, q = .returned (.tuple #[.slice A M.length c, .int .i64 0]) ∧ B3 N w' g1 g2 T L2 ((A, M, c) :: Os) ∧ Below N w w' := by
  subst hM; subst hT
  obtain ⟨F1, F2, h1, h2, h3, h4, h5, h7⟩ := h
  refine (Ye.due_any h1 now).mono ?_
  rintro q w' ⟨G, A, c, rfl, hp, hG, hl, hA, ho⟩
  have hz := ho.size
  refine ⟨A, c, rfl, ⟨fun j => G j ∧ j < w'.heap.size, F2, hp.tight, h2.only ho (fun j hj hf => (h3 j hf).2.2 hj), fun j hj => ?_, fun j hj => ⟨(h4 j hj).1, by have := (h4 j hj).2; omega⟩, fun o hm => ?_, by omega⟩, ho.below (fun j hj => (h3 j hj).1) h7⟩
  · rcases hG j hj.1 with h | h
    · exact ⟨(h3 j h).1, hj.2, (h3 j h).2.2⟩
    · exact ⟨by omega, hj.2, fun hf => by have := (h4 j hf).2; omega⟩
  · rcases List.mem_cons.1 hm with e | e
    · subst e
      exact ⟨hl, fun a ha => ⟨(hA a ha).2.1, fun hf => (hA a ha).2.2 hf.1, fun hf => by have := (h4 _ hf).2; have := (hA a ha).1; omega⟩⟩
    · have h6 := h5 o e
      exact ⟨h6.1.only ho (fun a ha => (h6.2 a ha).2.1), fun a ha => ⟨by have := (h6.2 a ha).1; omega, fun hf => (hG _ hf.1).elim (h6.2 a ha).2.1 (fun h => by have := (h6.2 a ha).1; omega), (h6.2 a ha).2.2⟩⟩
theorem B3.due2 (h : B3 N w g1 g2 L1 L2 Os) (now : Int) {M T : List Td} (hM : M = L2.take (dueK L2 now)) (hT : T = L2.drop (dueK L2 now)) :
    Calls Try.prog 26 #[.pointer (some ⟨g2, 0, none⟩), .int .u64 now] w fun q w' => ∃ A c, q = .returned (.tuple #[.slice A M.length c, .int .i64 0]) ∧ B3 N w' g1 g2 L1 T ((A, M, c) :: Os) ∧ Below N w w' := by
  subst hM; subst hT
  obtain ⟨F1, F2, h1, h2, h3, h4, h5, h7⟩ := h
  refine (Ye.due_any h2 now).mono ?_
  rintro q w' ⟨G, A, c, rfl, hp, hG, hl, hA, ho⟩
  have hz := ho.size
  refine ⟨A, c, rfl, ⟨F1, fun j => G j ∧ j < w'.heap.size, h1.only ho (fun j hj => (h3 j hj).2.2), hp.tight, fun j hj => ?_, fun j hj => ?_, fun o hm => ?_, by omega⟩, ho.below (fun j hj => (h4 j hj).1) h7⟩
  · have hl := (h3 j hj).2.1
    exact ⟨(h3 j hj).1, by omega, fun hf => (hG _ hf.1).elim (h3 j hj).2.2 (fun h => by omega)⟩
  · rcases hG j hj.1 with h | h
    · exact ⟨(h4 j h).1, hj.2⟩
    · exact ⟨by omega, hj.2⟩
  · rcases List.mem_cons.1 hm with e | e
    · subst e
      exact ⟨hl, fun a ha => ⟨(hA a ha).2.1, fun hf => by have := (h3 _ hf).2.1; have := (hA a ha).1; omega, fun hf => (hA a ha).2.2 hf.1⟩⟩
    · have h6 := h5 o e
      exact ⟨h6.1.only ho (fun a ha => (h6.2 a ha).2.2), fun a ha => ⟨by have := (h6.2 a ha).1; omega, (h6.2 a ha).2.1, fun hf => (hG _ hf.1).elim (h6.2 a ha).2.2 (fun h => by have := (h6.2 a ha).1; omega)⟩⟩
theorem B3.list1 (h : B3 N w g1 g2 L1 L2 Os) :
    Calls Try.prog 19 #[.pointer (some ⟨g1, 0, none⟩)] w fun q w' => ∃ B b, q = .returned (.slice B L1.length b) ∧ Lt w' B L1 b ∧ Below w.heap.size w w' := by
  obtain ⟨F1, F2, h1, _⟩ := h
  exact (list_any h1).mono fun q w' ⟨B, b, e, hm, hb⟩ => ⟨B, b, e, Lt.mine hm, hb⟩
theorem B3.list2 (h : B3 N w g1 g2 L1 L2 Os) :
    Calls Try.prog 19 #[.pointer (some ⟨g2, 0, none⟩)] w fun q w' => ∃ B b, q = .returned (.slice B L2.length b) ∧ Lt w' B L2 b ∧ Below w.heap.size w w' := by
  obtain ⟨F1, F2, _, h1, _⟩ := h
  exact (list_any h1).mono fun q w' ⟨B, b, e, hm, hb⟩ => ⟨B, b, e, Lt.mine hm, hb⟩
end
section
variable {N : Nat} {w w1 : World} {g : Nat} {L : List Td}
theorem kput (h : Kn N w w1 g L) (n a : Int) (ha : Tm a) : Calls Try.prog 13 #[.pointer (some ⟨g, 0, none⟩), .int .i64 n, .int .u64 a] w1 fun q w2 => ∃ (v : Value) (L' : List Td), q = .returned v ∧ Kn N w w2 g L' :=
  (Ye.put_any h.t n a ha).mono fun _ _ hp => ⟨_, _, h.wr hp⟩
theorem kmove (h : Kn N w w1 g L) (n a : Int) (ha : Tm a) : Calls Try.prog 21 #[.pointer (some ⟨g, 0, none⟩), .int .i64 n, .int .u64 a] w1 fun q w2 => ∃ (v : Value) (L' : List Td), q = .returned v ∧ Kn N w w2 g L' :=
  (Ye.move_any h.t n a ha).mono fun _ _ hp => ⟨_, _, h.wr hp⟩
theorem krem (h : Kn N w w1 g L) (n : Int) : Calls Try.prog 25 #[.pointer (some ⟨g, 0, none⟩), .int .i64 n] w1 fun q w2 => ∃ (v : Value) (L' : List Td), q = .returned v ∧ Kn N w w2 g L' :=
  (Ye.remove_any h.t n).mono fun _ _ hp => ⟨_, _, h.wr hp⟩
theorem kdue (h : Kn N w w1 g L) (a : Int) : Calls Try.prog 26 #[.pointer (some ⟨g, 0, none⟩), .int .u64 a] w1 fun q w2 => ∃ (v : Value) (L' : List Td), q = .returned v ∧ Kn N w w2 g L' := by
  refine (Ye.due_any h.t a).mono ?_
  rintro q w2 ⟨F', A, c, rfl, hp, hF, _, _, ho⟩
  exact ⟨_, _, rfl, hp.mono (fun j _ hj => (hF j hj).elim id (fun hj => Nat.le_trans h.z hj)), h.b.trans (ho.below (fun _ h => h) h.z), Nat.le_trans h.z ho.size⟩
end
/-- An append in a list of operations, guarded or not. -/
theorem wpList_mineG {P : Program} {ops : Array Oper} {rest : List Oper} {o : Oper} {a : Go.Act} {Q : Exit → Go.Act → World → Prop} (hwd : Region.wanted o (yielded ops a.tmps) = true) (s x : Operand) {t e : TypeId} {z : Value} {sz : Nat} (hel : Elm P t e z sz) (tx : TypeId)
    (ho : o.op = .call { callee := .builtin .append, args := #[s, x], argTypes := #[t, tx] })
    {B : Nat} {w : World} {A : Option Addr} {n c : Nat} {xs : List Value} (hs : a.eval s = .slice A n c) (h : Mine B sz w A n c xs)
    (v : Value) (hx : a.eval x = v) (m : Nat) (news : List Value) (hsrc : Src P sz tx v m news w) (hn : n ≤ 1000000000) (hm : m ≤ 1000000000) (hB : B ≤ w.heap.size)
    (hK : ∀ A' c' w', Mine B sz w' A' (n + m) c' (xs ++ news) → w.grownBy w' (A.map (·.block)) → wpList P ops Q rest (a.put o.dst (.slice A' (n + m) c')) w') :
    wpList P ops Q (o :: rest) a w :=
  wpList_step fun _ hK' => step_mine hwd s x hel tx ho hs h v hx m news hsrc hn hm hB fun A' c' w' h1 h2 _ => hK' _ _ (hK A' c' w' h1 h2)
set_option maxRecDepth 100000 in
set_option maxHeartbeats 16000000 in
theorem holds_walk (D : Option Addr) (q0 : Nat) (l : List Ac) (now later : Int) (W : World) (ha : Rs W 3 D l.length q0 (acL l)) (hl : ∀ x ∈ l, Tm x.2.2) (hn : Tm now) (hlt : Tm later) :
    Calls Try.prog 7 #[.slice D l.length q0, .int .u64 now, .int .u64 later] W (boolTo true W) := by
  have HD := Lib.hid ha
  have HL := Lib.hid hl
  have TN := Lib.hid hn
  have TL := Lib.hid hlt
  have hdl := ha.le
  have hdm := ha.max
  unfold maxLen at hdm
  clear ha hl hn hlt
  obtain ⟨N, hN⟩ : ∃ N, N = W.heap.size := ⟨_, rfl⟩
  have HN := Lib.hid hN
  unfold boolTo
  rw [← hN]
  clear hN
  by_cases h60 : 60 < l.length
  · have i1 : (60 : Int) < (l.length : Int) := by omega
    go_enter Try.func7, Try.ntmps7
    go_wp2_with fail
    refine (known_any W).mono ?_
    rintro e w1 ⟨rfl, hb⟩
    have HB := Lib.hid hb
    clear hb
    go_wp2_with fail
    go_ret
    exact ⟨rfl, by rw [HN.out]; exact HB.out⟩
  have i1 : (l.length : Int) ≤ 60 := by omega
  have hl60 : l.length ≤ 60 := by omega
  have HNW := Lib.hid (new_any W)
  unfold mkPost at HNW
  rw [← HN.out] at HNW
  clear h60
  go_enter Try.func7, Try.ntmps7
  go_wp2_with fail
  refine HNW.out.mono ?_
  rintro e w1 ⟨g, rfl, ha, hb⟩
  have HK1 : Hid (Kn N W w1 g []) := ⟨ha, hb, by rw [HN.out]; exact hb.size⟩
  clear ha hb HNW
  go_wp2_with fail
  go_loopw [33] (fun i wr => ∃ (k : Nat) (L : List Td), k ≤ l.length ∧ i = .int .i64 (k : Int) ∧ Kn N W wr g L) (fun i _ => l.length - (intOf i).toNat)
  case atStart => exact ⟨0, [], Nat.zero_le _, rfl, HK1.out⟩
  case round =>
    obtain ⟨k, L, hk, rfl, hkn⟩ := hrel
    have KN := Lib.hid hkn
    have hNr := hkn.z
    clear hkn HK1
    by_cases hlt : k < l.length
    · have j1 : (k : Int) < (l.length : Int) := by omega
      obtain ⟨f0, f1, f2⟩ := acL_get l k hlt
      have RD := HD.out.rd.below KN.out.b (by have := HN.out; omega)
      obtain ⟨tb, to_, rfl, ltb, a0⟩ := RD.at_ f0
      obtain ⟨tb', to', e1, _, a1⟩ := RD.at_ f1
      injection e1 with e1; injection e1 with e11 e12; subst e11; subst e12
      obtain ⟨tb', to', e1, _, a2⟩ := RD.at_ f2
      injection e1 with e1; injection e1 with e11 e12; subst e11; subst e12
      rw [← Nat.add_assoc] at a1 a2
      obtain ⟨⟨xa, xn, xt⟩, hx⟩ : ∃ x, x = l[k] := ⟨_, rfl⟩
      have hxt := HL.out l[k] (List.getElem_mem hlt)
      rw [← hx] at a0 a1 a2 hxt
      simp only at a0 a1 a2 hxt
      have HXT := Lib.hid hxt
      obtain ⟨v0, hv0⟩ : ∃ v0, v0 = wr.alloc (.cells #[.int .i64 xa, .int .i64 xn, .int .u64 xt] 30) := ⟨_, rfl⟩
      obtain ⟨b6, hb6⟩ : ∃ b6, b6 = wr.heap.size := ⟨_, rfl⟩
      have b0 : Below wr.heap.size wr v0 := by rw [hv0]; exact bnew _ _
      have P6 : Hid (Blk v0 b6 #[.int .i64 xa, .int .i64 xn, .int .u64 xt] 30) := by show Blk _ _ _ _; rw [hv0, hb6]; exact Blk.new _ _ _
      have K0 := Lib.hid (KN.out.below b0)
      clear f0 f1 f2 RD hx b0 hxt
      go_upto_region 9 with (fail)
      rw [← hv0, ← hb6]
      clear hv0 hb6 a0 a1 a2
      obtain ⟨y0, y1, y2, _⟩ := P6.out.three
      by_cases q0 : xa = 0
      · subst q0
        go_wp2_with fail
        refine (kput K0.out xn xt HXT.out).mono ?_
        rintro r w2 ⟨v, L', rfl, hk2⟩
        have K2 := Lib.hid hk2
        clear hk2 y0 y1 y2
        go_wp2_with fail
        go_roundw
        case rel => exact ⟨k + 1, L', by omega, by go_num, K2.out⟩
        case measure => simp [intOf]; omega
      by_cases q1 : xa = 1
      · subst q1
        go_wp2_with fail
        refine (kmove K0.out xn xt HXT.out).mono ?_
        rintro r w2 ⟨v, L', rfl, hk2⟩
        have K2 := Lib.hid hk2
        clear hk2 y0 y1 y2
        go_wp2_with fail
        go_roundw
        case rel => exact ⟨k + 1, L', by omega, by go_num, K2.out⟩
        case measure => simp [intOf]; omega
      by_cases q2 : xa = 2
      · subst q2
        go_wp2_with fail
        refine (krem K0.out xn).mono ?_
        rintro r w2 ⟨v, L', rfl, hk2⟩
        have K2 := Lib.hid hk2
        clear hk2 y0 y1 y2
        go_wp2_with fail
        go_roundw
        case rel => exact ⟨k + 1, L', by omega, by go_num, K2.out⟩
        case measure => simp [intOf]; omega
      by_cases q3 : xa = 3
      · subst q3
        go_wp2_with fail
        refine (kdue K0.out xt).mono ?_
        rintro r w2 ⟨v, L', rfl, hk2⟩
        have K2 := Lib.hid hk2
        clear hk2 y0 y1 y2
        go_wp2_with fail
        go_roundw
        case rel => exact ⟨k + 1, L', by omega, by go_num, K2.out⟩
        case measure => simp [intOf]; omega
      have e0 : (xa == 0) = false := by simpa using q0
      have e1 : (xa == 1) = false := by simpa using q1
      have e2 : (xa == 2) = false := by simpa using q2
      have e3 : (xa == 3) = false := by simpa using q3
      go_wp2_with fail
      go_roundw
      case rel => exact ⟨k + 1, L, by omega, by go_num, K0.out⟩
      case measure => simp [intOf]; omega
    · obtain rfl : k = l.length := by omega
      have hnn : ¬ (l.length : Int) < l.length := by omega
      clear hlt
      have HLI := Lib.hid (list_any KN.out.t.tight)
      unfold listPost at HLI
      have hLs := KN.out.t.srt.len
      have g1' : (L.length : Int) ≤ 1048576 := by omega
      go_wp2_with fail
      refine HLI.out.mono ?_
      rintro r w2 ⟨A, c, rfl, hm, hb⟩
      have HP : Hid (Hp (fun j => N ≤ j ∧ j < wr.heap.size) w2 g L) := KN.out.t.tight.below hb (Nat.le_refl _)
      have LA : Hid (Lt w2 A L c) := Lt.mine hm
      have AD : Hid (∀ a, A = some a → wr.heap.size ≤ a.block ∧ a.block < w2.heap.size) := fun a ha => ⟨(hm.base ha).1, (hm.base ha).2.1⟩
      have BL2 := Lib.hid (KN.out.b.trans (hb.mono hNr))
      have hz2 := hb.size
      have hcL := Rs.max LA.out
      have SR := Lib.hid KN.out.t.srt
      obtain ⟨B1, hB1⟩ : ∃ B1, B1 = wr.heap.size := ⟨_, rfl⟩
      rw [← hB1] at HP AD hz2 hNr
      clear hm hb HLI KN HD hdl hdm hnn hB1
      go_wp2_with fail
      go_loopw [72] (fun i wq => ∃ (k : Nat), k ≤ L.length ∧ i = .int .i64 (k : Int) ∧ Below w2.heap.size w2 wq) (fun i _ => L.length - (intOf i).toNat)
      case atStart => exact ⟨0, Nat.zero_le _, rfl, Below.refl _ _⟩
      case round =>
        obtain ⟨k, hk, rfl, hbl⟩ := hrel
        have BQ := Lib.hid hbl
        have hzq := hbl.size
        clear hbl
        by_cases hlt : k < L.length
        · have j1 : (k : Int) < (L.length : Int) := by omega
          have LQ := Lib.hid (LA.out.below BQ.out (Nat.le_refl _))
          obtain ⟨tb, to_, rfl, ltb, a0, a1⟩ := LQ.out.at_ hlt
          obtain ⟨⟨x, y⟩, hx⟩ : ∃ x, x = L[k] := ⟨_, rfl⟩
          rw [← hx] at a0 a1
          simp only at a0 a1
          obtain ⟨v0, hv0⟩ : ∃ v0, v0 = wr.alloc (.cells #[.int .i64 x, .int .u64 y] 41) := ⟨_, rfl⟩
          obtain ⟨b6, hb6⟩ : ∃ b6, b6 = wr.heap.size := ⟨_, rfl⟩
          have b0 : Below wr.heap.size wr v0 := by rw [hv0]; exact bnew _ _
          have P6 : Hid (Blk v0 b6 #[.int .i64 x, .int .u64 y] 41) := by show Blk _ _ _ _; rw [hv0, hb6]; exact Blk.new _ _ _
          have B0 := Lib.hid (BQ.out.trans (b0.mono hzq))
          have GA : Hid (remA L x = y ∧ remN L x = 0) := by
            have hm : x ∈ ns L := mem_ns.2 ⟨L[k], List.getElem_mem hlt, by rw [← hx]⟩
            have hsl : Sl x := by have := SR.out.sl L[k] (List.getElem_mem hlt); rw [← hx] at this; exact this
            refine ⟨?_, by unfold remN; rw [if_neg (by simpa using hsl), if_pos hm]⟩
            unfold remA
            rw [if_pos ⟨hsl, hm⟩, tmOf_at SR.out.nd hlt (by rw [← hx]), ← hx]
          have HG := Lib.hid (gets_is (HP.out.below (B0.out.drew) (Nat.le_refl _)) x y 0 GA.out.1 GA.out.2)
          have LV := Lib.hid (LA.out.below B0.out (Nat.le_refl _))
          have HX := Lib.hid hx
          have lz0 : w2.heap.size ≤ v0.heap.size := B0.out.size
          have lzr : wr.heap.size ≤ v0.heap.size := b0.size
          clear b0 LQ hx
          go_upto_region 23 with (fail)
          rw [← hv0, ← hb6]
          clear hv0 hb6 a0 a1
          obtain ⟨y0, y1, _⟩ := P6.out.two
          by_cases hk0 : k = 0
          · subst hk0
            have hgt : decide ((0 : Int) < 0) = false := by simp
            refine wp_region_noPanic ?_
            refine wp_region_held_drew (S := fun v => v.cell? ⟨b6, 0, none⟩ = some (.int .i64 x) ∧ v.cell? ⟨b6, 0 + 1, none⟩ = some (.int .u64 y)) (by kernel_rfl) (⟨y0, y1⟩) (fun hHeld => ?_)
            refine wpAnyH_take (i := 0) (oi := ⟨some 77, _, _, _, _, _⟩) (v := ?_) rfl (by kernel_rfl) (by kernel_rfl) (by kernel_rfl) (fun _ _ _ h => h) (Or.inl ⟨by rfl, ?_⟩) (by assumption) ?_
            rotate_left
            · intro w hSw; go_simp; first | done | with_reducible rfl
            try simp only [Act.put, List.setIfInBounds_toArray, List.set_cons_zero, List.set_cons_succ]
            refine wpAnyH_take (i := 1) (oi := ⟨some 78, _, _, _, _, _⟩) (v := ?_) rfl (by kernel_rfl) (by kernel_rfl) (by kernel_rfl) (fun _ _ _ h => h) (Or.inl ⟨by rfl, ?_⟩) (by assumption) ?_
            rotate_left
            · intro w hSw; go_simp; first | done | with_reducible rfl
            try simp only [Act.put, List.setIfInBounds_toArray, List.set_cons_zero, List.set_cons_succ]
            refine wpAnyH_take (i := 2) (oi := ⟨some 79, _, _, _, _, _⟩) (v := ?_) rfl (by kernel_rfl) (by kernel_rfl) (by kernel_rfl) (fun _ _ _ h => h) (Or.inl ⟨by rfl, ?_⟩) (by assumption) ?_
            rotate_left
            · intro w hSw; go_simp; first | done | with_reducible rfl
            try simp only [Act.put, List.setIfInBounds_toArray, List.set_cons_zero, List.set_cons_succ]
            refine wpAnyH_take (i := 3) (oi := ⟨some 80, _, _, _, _, _⟩) (v := _) rfl (by kernel_rfl) (by kernel_rfl) (by kernel_rfl) (fun _ _ _ h => h) (Or.inr ⟨by rfl, rfl⟩) (by assumption) ?_
            try simp only [Act.put, List.setIfInBounds_toArray, List.set_cons_zero, List.set_cons_succ]
            refine wpAnyH_take (i := 4) (oi := ⟨some 81, _, _, _, _, _⟩) (v := _) rfl (by kernel_rfl) (by kernel_rfl) (by kernel_rfl) (fun _ _ _ h => h) (Or.inr ⟨by rfl, rfl⟩) (by assumption) ?_
            try simp only [Act.put, List.setIfInBounds_toArray, List.set_cons_zero, List.set_cons_succ]
            refine wpAnyH_take (i := 5) (oi := ⟨some 82, _, _, _, _, _⟩) (v := _) rfl (by kernel_rfl) (by kernel_rfl) (by kernel_rfl) (fun _ _ _ h => h) (Or.inr ⟨by rfl, rfl⟩) (by assumption) ?_
            try simp only [Act.put, List.setIfInBounds_toArray, List.set_cons_zero, List.set_cons_succ]
            refine wpAnyH_take (i := 6) (oi := ⟨some 83, _, _, _, _, _⟩) (v := _) rfl (by kernel_rfl) (by kernel_rfl) (by kernel_rfl) (fun _ _ _ h => h) (Or.inr ⟨by rfl, rfl⟩) (by assumption) ?_
            try simp only [Act.put, List.setIfInBounds_toArray, List.set_cons_zero, List.set_cons_succ]
            refine wpAnyH_take (i := 7) (oi := ⟨some 84, _, _, _, _, _⟩) (v := _) rfl (by kernel_rfl) (by kernel_rfl) (by kernel_rfl) (fun _ _ _ h => h) (Or.inr ⟨by rfl, rfl⟩) (by assumption) ?_
            try simp only [Act.put, List.setIfInBounds_toArray, List.set_cons_zero, List.set_cons_succ]
            refine wpAnyH_take (i := 8) (oi := ⟨some 85, _, _, _, _, _⟩) (v := _) rfl (by kernel_rfl) (by kernel_rfl) (by kernel_rfl) (fun _ _ _ h => h) (Or.inr ⟨by rfl, rfl⟩) (by assumption) ?_
            try simp only [Act.put, List.setIfInBounds_toArray, List.set_cons_zero, List.set_cons_succ]
            refine wpAnyH_take (i := 9) (oi := ⟨some 86, _, _, _, _, _⟩) (v := _) rfl (by kernel_rfl) (by kernel_rfl) (by kernel_rfl) (fun _ _ _ h => h) (Or.inr ⟨by rfl, rfl⟩) (by assumption) ?_
            try simp only [Act.put, List.setIfInBounds_toArray, List.set_cons_zero, List.set_cons_succ]
            refine wpAnyH_take (i := 10) (oi := ⟨some 87, _, _, _, _, _⟩) (v := _) rfl (by kernel_rfl) (by kernel_rfl) (by kernel_rfl) (fun _ _ _ h => h) (Or.inr ⟨by rfl, rfl⟩) (by assumption) ?_
            try simp only [Act.put, List.setIfInBounds_toArray, List.set_cons_zero, List.set_cons_succ]
            refine wpAnyH_take (i := 11) (oi := ⟨some 88, _, _, _, _, _⟩) (v := _) rfl (by kernel_rfl) (by kernel_rfl) (by kernel_rfl) (fun _ _ _ h => h) (Or.inr ⟨by rfl, rfl⟩) (by assumption) ?_
            try simp only [Act.put, List.setIfInBounds_toArray, List.set_cons_zero, List.set_cons_succ]
            refine wpAnyH_take (i := 12) (oi := ⟨some 89, _, _, _, _, _⟩) (v := _) rfl (by kernel_rfl) (by kernel_rfl) (by kernel_rfl) (fun _ _ _ h => h) (Or.inr ⟨by rfl, rfl⟩) (by assumption) ?_
            try simp only [Act.put, List.setIfInBounds_toArray, List.set_cons_zero, List.set_cons_succ]
            refine wpAnyH_take (i := 13) (oi := ⟨some 90, _, _, _, _, _⟩) (v := _) rfl (by kernel_rfl) (by kernel_rfl) (by kernel_rfl) (fun _ _ _ h => h) (Or.inr ⟨by rfl, rfl⟩) (by assumption) ?_
            try simp only [Act.put, List.setIfInBounds_toArray, List.set_cons_zero, List.set_cons_succ]
            refine wpAnyH_take (i := 14) (oi := ⟨some 91, _, _, _, _, _⟩) (v := _) rfl (by kernel_rfl) (by kernel_rfl) (by kernel_rfl) (fun _ _ _ h => h) (Or.inr ⟨by rfl, rfl⟩) (by assumption) ?_
            try simp only [Act.put, List.setIfInBounds_toArray, List.set_cons_zero, List.set_cons_succ]
            refine wpAnyH_take (i := 15) (oi := ⟨some 92, _, _, _, _, _⟩) (v := _) rfl (by kernel_rfl) (by kernel_rfl) (by kernel_rfl) (fun _ _ _ h => h) (Or.inr ⟨by rfl, rfl⟩) (by assumption) ?_
            try simp only [Act.put, List.setIfInBounds_toArray, List.set_cons_zero, List.set_cons_succ]
            refine wpAnyH_take (i := 16) (oi := ⟨some 93, _, _, _, _, _⟩) (v := _) rfl (by kernel_rfl) (by kernel_rfl) (by kernel_rfl) (fun _ _ _ h => h) (Or.inr ⟨by rfl, rfl⟩) (by assumption) ?_
            try simp only [Act.put, List.setIfInBounds_toArray, List.set_cons_zero, List.set_cons_succ]
            refine wpAnyH_take (i := 17) (oi := ⟨some 94, _, _, _, _, _⟩) (v := _) rfl (by kernel_rfl) (by kernel_rfl) (by kernel_rfl) (fun _ _ _ h => h) (Or.inr ⟨by rfl, rfl⟩) (by assumption) ?_
            try simp only [Act.put, List.setIfInBounds_toArray, List.set_cons_zero, List.set_cons_succ]
            refine wpAnyH_take (i := 18) (oi := ⟨some 95, _, _, _, _, _⟩) (v := _) rfl (by kernel_rfl) (by kernel_rfl) (by kernel_rfl) (fun _ _ _ h => h) (Or.inr ⟨by rfl, rfl⟩) (by assumption) ?_
            try simp only [Act.put, List.setIfInBounds_toArray, List.set_cons_zero, List.set_cons_succ]
            refine wpAnyH_take (i := 19) (oi := ⟨some 96, _, _, _, _, _⟩) (v := _) rfl (by kernel_rfl) (by kernel_rfl) (by kernel_rfl) (fun _ _ _ h => h) (Or.inr ⟨by rfl, rfl⟩) (by assumption) ?_
            try simp only [Act.put, List.setIfInBounds_toArray, List.set_cons_zero, List.set_cons_succ]
            refine wpAnyH_take (i := 20) (oi := ⟨some 97, _, _, _, _, _⟩) (v := _) rfl (by kernel_rfl) (by kernel_rfl) (by kernel_rfl) (fun _ _ _ h => h) (Or.inr ⟨by rfl, rfl⟩) (by assumption) ?_
            try simp only [Act.put, List.setIfInBounds_toArray, List.set_cons_zero, List.set_cons_succ]
            refine wpAnyH_take (i := 21) (oi := ⟨some 98, _, _, _, _, _⟩) (v := _) rfl (by kernel_rfl) (by kernel_rfl) (by kernel_rfl) (fun _ _ _ h => h) (Or.inr ⟨by rfl, rfl⟩) (by assumption) ?_
            try simp only [Act.put, List.setIfInBounds_toArray, List.set_cons_zero, List.set_cons_succ]
            refine wpAnyH_take (i := 22) (oi := ⟨some 99, _, _, _, _, _⟩) (v := _) rfl (by kernel_rfl) (by kernel_rfl) (by kernel_rfl) (fun _ _ _ h => h) (Or.inr ⟨by rfl, rfl⟩) (by assumption) ?_
            try simp only [Act.put, List.setIfInBounds_toArray, List.set_cons_zero, List.set_cons_succ]
            refine wpAnyH_take (i := 23) (oi := ⟨some 100, _, _, _, _, _⟩) (v := _) rfl (by kernel_rfl) (by kernel_rfl) (by kernel_rfl) (fun _ _ _ h => h) (Or.inr ⟨by rfl, rfl⟩) (by assumption) ?_
            try simp only [Act.put, List.setIfInBounds_toArray, List.set_cons_zero, List.set_cons_succ]
            refine wpAnyH_take (i := 24) (oi := ⟨some 101, _, _, _, _, _⟩) (v := _) rfl (by kernel_rfl) (by kernel_rfl) (by kernel_rfl) (fun _ _ _ h => h) (Or.inr ⟨by rfl, rfl⟩) (by assumption) ?_
            try simp only [Act.put, List.setIfInBounds_toArray, List.set_cons_zero, List.set_cons_succ]
            refine wpAnyH_take (i := 25) (oi := ⟨some 102, _, _, _, _, _⟩) (v := _) rfl (by kernel_rfl) (by kernel_rfl) (by kernel_rfl) (fun _ _ _ h => h) (Or.inr ⟨by rfl, rfl⟩) (by assumption) ?_
            try simp only [Act.put, List.setIfInBounds_toArray, List.set_cons_zero, List.set_cons_succ]
            refine wpAnyH_take (i := 26) (oi := ⟨some 103, _, _, _, _, _⟩) (v := _) rfl (by kernel_rfl) (by kernel_rfl) (by kernel_rfl) (fun _ _ _ h => h) (Or.inr ⟨by rfl, rfl⟩) (by assumption) ?_
            try simp only [Act.put, List.setIfInBounds_toArray, List.set_cons_zero, List.set_cons_succ]
            refine wpAnyH_take (i := 27) (oi := ⟨some 104, _, _, _, _, _⟩) (v := _) rfl (by kernel_rfl) (by kernel_rfl) (by kernel_rfl) (fun _ _ _ h => h) (Or.inr ⟨by rfl, rfl⟩) (by assumption) ?_
            try simp only [Act.put, List.setIfInBounds_toArray, List.set_cons_zero, List.set_cons_succ]
            refine wpAnyH_take (i := 28) (oi := ⟨some 105, _, _, _, _, _⟩) (v := _) rfl (by kernel_rfl) (by kernel_rfl) (by kernel_rfl) (fun _ _ _ h => h) (Or.inr ⟨by rfl, rfl⟩) (by assumption) ?_
            try simp only [Act.put, List.setIfInBounds_toArray, List.set_cons_zero, List.set_cons_succ]
            refine wpAnyH_take (i := 29) (oi := ⟨some 106, _, _, _, _, _⟩) (v := _) rfl (by kernel_rfl) (by kernel_rfl) (by kernel_rfl) (fun _ _ _ h => h) (Or.inr ⟨by rfl, rfl⟩) (by assumption) ?_
            try simp only [Act.put, List.setIfInBounds_toArray, List.set_cons_zero, List.set_cons_succ]
            refine wpAnyH_take (i := 30) (oi := ⟨some 107, _, _, _, _, _⟩) (v := _) rfl (by kernel_rfl) (by kernel_rfl) (by kernel_rfl) (fun _ _ _ h => h) (Or.inr ⟨by rfl, rfl⟩) (by assumption) ?_
            try simp only [Act.put, List.setIfInBounds_toArray, List.set_cons_zero, List.set_cons_succ]
            refine wpAnyH_take (i := 31) (oi := ⟨some 108, _, _, _, _, _⟩) (v := _) rfl (by kernel_rfl) (by kernel_rfl) (by kernel_rfl) (fun _ _ _ h => h) (Or.inr ⟨by rfl, rfl⟩) (by assumption) ?_
            try simp only [Act.put, List.setIfInBounds_toArray, List.set_cons_zero, List.set_cons_succ]
            refine wpAnyH_take (i := 32) (oi := ⟨some 109, _, _, _, _, _⟩) (v := _) rfl (by kernel_rfl) (by kernel_rfl) (by kernel_rfl) (fun _ _ _ h => h) (Or.inr ⟨by rfl, rfl⟩) (by assumption) ?_
            try simp only [Act.put, List.setIfInBounds_toArray, List.set_cons_zero, List.set_cons_succ]
            refine wpAnyH_take (i := 33) (oi := ⟨some 110, _, _, _, _, _⟩) (v := _) rfl (by kernel_rfl) (by kernel_rfl) (by kernel_rfl) (fun _ _ _ h => h) (Or.inr ⟨by rfl, rfl⟩) (by assumption) ?_
            try simp only [Act.put, List.setIfInBounds_toArray, List.set_cons_zero, List.set_cons_succ]
            refine wpAnyH_take (i := 34) (oi := ⟨some 111, _, _, _, _, _⟩) (v := ?_) rfl (by kernel_rfl) (by kernel_rfl) (by kernel_rfl) (fun _ _ _ h => h) (Or.inl ⟨by rfl, ?_⟩) (by assumption) ?_
            rotate_left
            · intro w hSw; go_simp; first | done | with_reducible rfl
            try simp only [Act.put, List.setIfInBounds_toArray, List.set_cons_zero, List.set_cons_succ]
            refine wpAnyH_take (i := 35) (oi := ⟨some 112, _, _, _, _, _⟩) (v := ?_) rfl (by kernel_rfl) (by kernel_rfl) (by kernel_rfl) (fun _ _ _ h => h) (Or.inl ⟨by rfl, ?_⟩) (by assumption) ?_
            rotate_left
            · intro w hSw; go_simp; first | done | with_reducible rfl
            try simp only [Act.put, List.setIfInBounds_toArray, List.set_cons_zero, List.set_cons_succ]
            refine wpAnyH_take (i := 36) (oi := ⟨some 113, _, _, _, _, _⟩) (v := ?_) rfl (by kernel_rfl) (by kernel_rfl) (by kernel_rfl) (fun _ _ _ h => h) (Or.inl ⟨by rfl, ?_⟩) (by assumption) ?_
            rotate_left
            · intro w hSw; go_simp; first | done | with_reducible rfl
            try simp only [Act.put, List.setIfInBounds_toArray, List.set_cons_zero, List.set_cons_succ]
            refine wpAnyH_take (i := 37) (oi := ⟨some 114, _, _, _, _, _⟩) (v := ?_) rfl (by kernel_rfl) (by kernel_rfl) (by kernel_rfl) (fun _ _ _ h => h) (Or.inl ⟨by rfl, ?_⟩) (by assumption) ?_
            rotate_left
            · intro w hSw; go_simp; first | done | with_reducible rfl
            try simp only [Act.put, List.setIfInBounds_toArray, List.set_cons_zero, List.set_cons_succ]
            refine wpAnyH_take (i := 38) (oi := ⟨some 115, _, _, _, _, _⟩) (v := ?_) rfl (by kernel_rfl) (by kernel_rfl) (by kernel_rfl) (fun _ _ _ h => h) (Or.inl ⟨by rfl, ?_⟩) (by assumption) ?_
            rotate_left
            · intro w hSw; go_simp; first | done | with_reducible rfl
            try simp only [Act.put, List.setIfInBounds_toArray, List.set_cons_zero, List.set_cons_succ]
            refine wpAnyH_take (i := 39) (oi := ⟨some 116, _, _, _, _, _⟩) (v := ?_) rfl (by kernel_rfl) (by kernel_rfl) (by kernel_rfl) (fun _ _ _ h => h) (Or.inl ⟨by rfl, ?_⟩) (by assumption) ?_
            rotate_left
            · intro w hSw; go_simp; first | done | with_reducible rfl
            try simp only [Act.put, List.setIfInBounds_toArray, List.set_cons_zero, List.set_cons_succ]
            refine wpAnyH_take (i := 40) (oi := ⟨some 117, _, _, _, _, _⟩) (v := ?_) rfl (by kernel_rfl) (by kernel_rfl) (by kernel_rfl) (fun _ _ _ h => h) (Or.inl ⟨by rfl, ?_⟩) (by assumption) ?_
            rotate_left
            · intro w hSw; go_simp; first | done | with_reducible rfl
            try simp only [Act.put, List.setIfInBounds_toArray, List.set_cons_zero, List.set_cons_succ]
            refine wpAnyH_ready (rs := [41]) (by kernel_rfl) (by simp) ?_
            refine AllReadyH.cons (o := ⟨some 118, _, _, _, _, _⟩) rfl (fun K hK => ?_) AllReadyH.nil
            go_simp
            refine HG.out.mono ?_
            rintro r v1 ⟨rfl, hb⟩
            have BG := Lib.hid hb
            have y0' := (BG.out.cell (p := ⟨b6, 0, none⟩) P6.out.lt).trans y0
            have y1' := (BG.out.cell (p := ⟨b6, 0 + 1, none⟩) P6.out.lt).trans y1
            clear hb HG
            go_simp
            refine hK.out _ _ (⟨y0', y1'⟩) (fun hHeld => ?_)
            clear hK K
            try simp only [Act.put, List.setIfInBounds_toArray, List.set_cons_zero, List.set_cons_succ]
            refine wpAnyH_take (i := 42) (oi := ⟨some 119, _, _, _, _, _⟩) (v := ?_) rfl (by kernel_rfl) (by kernel_rfl) (by kernel_rfl) (fun _ _ _ h => h) (Or.inl ⟨by rfl, ?_⟩) (by assumption) ?_
            rotate_left
            · intro w hSw; go_simp; first | done | with_reducible rfl
            try simp only [Act.put, List.setIfInBounds_toArray, List.set_cons_zero, List.set_cons_succ]
            refine wpAnyH_take (i := 43) (oi := ⟨some 120, _, _, _, _, _⟩) (v := ?_) rfl (by kernel_rfl) (by kernel_rfl) (by kernel_rfl) (fun _ _ _ h => h) (Or.inl ⟨by rfl, ?_⟩) (by assumption) ?_
            rotate_left
            · intro w hSw; go_simp; first | done | with_reducible rfl
            try simp only [Act.put, List.setIfInBounds_toArray, List.set_cons_zero, List.set_cons_succ]
            refine wpAnyH_done (by kernel_rfl) ?_ _
            refine NoPanic.normal ?_
            go_wp2_with fail
            go_roundw
            case rel => exact ⟨1, by omega, rfl, B0.out.drew.trans (BG.out.mono lz0)⟩
            case measure => simp [intOf]; omega
          · have hgt : decide ((0 : Int) < (k : Int)) = true := by simp; omega
            have hgt2 : decide (0 < k) = true := by simp; omega
            obtain ⟨kp, hkp⟩ : ∃ kp, k = kp + 1 := ⟨k - 1, by omega⟩
            have HKP := Lib.hid hkp
            have hltp : kp < L.length := by omega
            obtain ⟨tb', to', e1, _, p0, p1⟩ := LV.out.at_ hltp
            injection e1 with e1; injection e1 with e11 e12; subst e11; subst e12
            have hbf := List.pairwise_iff_getElem.1 SR.out.pw kp k hltp hlt (by omega)
            obtain ⟨⟨px, py⟩, hpx⟩ : ∃ z, z = L[kp] := ⟨_, rfl⟩
            rw [← hpx] at p0 p1
            rw [← hpx, ← HX.out] at hbf
            unfold bf at hbf
            simp only at p0 p1 hbf
            have HBF := Lib.hid hbf
            have hw : IntKind.i64.wrap (kp : Int) = (kp : Int) := by rw [IntKind.wrap_i64]; omega
            have jp : (kp : Int) < (L.length : Int) := by omega
            have hw2 : (k : Int) - 1 = (kp : Int) := by omega
            have ltv : tb < v0.heap.size := Nat.lt_of_lt_of_le ltb lzr
            clear hbf hpx HX LV hkp hk0
            by_cases hyy : y = py
            · subst hyy
              have hd3 : decide (x ≤ px) = false := by have := HBF.out; simp; omega
              have hd1 : decide (y < y) = false := by simp
              have hd2 : (y == y) = true := by simp
              clear HBF
              refine wp_region_noPanic ?_
              refine wp_region_held_drew (S := fun v => v.cell? ⟨b6, 0, none⟩ = some (.int .i64 x) ∧ v.cell? ⟨b6, 0 + 1, none⟩ = some (.int .u64 y) ∧ v.cell? ⟨tb, to_ + kp * 2, none⟩ = some (.int .i64 px) ∧ v.cell? ⟨tb, to_ + kp * 2 + 1, none⟩ = some (.int .u64 y)) (by kernel_rfl) (⟨y0, y1, p0, p1⟩) (fun hHeld => ?_)
              refine wpAnyH_take (i := 0) (oi := ⟨some 77, _, _, _, _, _⟩) (v := ?_) rfl (by kernel_rfl) (by kernel_rfl) (by kernel_rfl) (fun _ _ _ h => h) (Or.inl ⟨by rfl, ?_⟩) (by assumption) ?_
              rotate_left
              · intro w hSw; go_simp; first | done | with_reducible rfl
              try simp only [Act.put, List.setIfInBounds_toArray, List.set_cons_zero, List.set_cons_succ]
              refine wpAnyH_take (i := 1) (oi := ⟨some 78, _, _, _, _, _⟩) (v := ?_) rfl (by kernel_rfl) (by kernel_rfl) (by kernel_rfl) (fun _ _ _ h => h) (Or.inl ⟨by rfl, ?_⟩) (by assumption) ?_
              rotate_left
              · intro w hSw; go_simp; first | done | with_reducible rfl
              try simp only [Act.put, List.setIfInBounds_toArray, List.set_cons_zero, List.set_cons_succ]
              refine wpAnyH_take (i := 2) (oi := ⟨some 79, _, _, _, _, _⟩) (v := ?_) rfl (by kernel_rfl) (by kernel_rfl) (by kernel_rfl) (fun _ _ _ h => h) (Or.inl ⟨by rfl, ?_⟩) (by assumption) ?_
              rotate_left
              · intro w hSw; go_simp; first | done | with_reducible rfl
              try simp only [Act.put, List.setIfInBounds_toArray, List.set_cons_zero, List.set_cons_succ]
              refine wpAnyH_take (i := 3) (oi := ⟨some 80, _, _, _, _, _⟩) (v := ?_) rfl (by kernel_rfl) (by kernel_rfl) (by kernel_rfl) (fun _ _ _ h => h) (Or.inl ⟨by rfl, ?_⟩) (by assumption) ?_
              rotate_left
              · intro w hSw; go_simp; first | done | with_reducible rfl
              try simp only [Act.put, List.setIfInBounds_toArray, List.set_cons_zero, List.set_cons_succ]
              refine wpAnyH_take (i := 4) (oi := ⟨some 81, _, _, _, _, _⟩) (v := ?_) rfl (by kernel_rfl) (by kernel_rfl) (by kernel_rfl) (fun _ _ _ h => h) (Or.inl ⟨by rfl, ?_⟩) (by assumption) ?_
              rotate_left
              · intro w hSw; go_simp; first | done | with_reducible rfl
              try simp only [Act.put, List.setIfInBounds_toArray, List.set_cons_zero, List.set_cons_succ]
              refine wpAnyH_take (i := 5) (oi := ⟨some 82, _, _, _, _, _⟩) (v := ?_) rfl (by kernel_rfl) (by kernel_rfl) (by kernel_rfl) (fun _ _ _ h => h) (Or.inl ⟨by rfl, ?_⟩) (by assumption) ?_
              rotate_left
              · intro w hSw; go_simp; first | done | with_reducible rfl
              try simp only [Act.put, List.setIfInBounds_toArray, List.set_cons_zero, List.set_cons_succ]
              refine wpAnyH_take (i := 6) (oi := ⟨some 83, _, _, _, _, _⟩) (v := ?_) rfl (by kernel_rfl) (by kernel_rfl) (by kernel_rfl) (fun _ _ _ h => h) (Or.inl ⟨by rfl, ?_⟩) (by assumption) ?_
              rotate_left
              · intro w hSw; go_simp; first | done | with_reducible rfl
              try simp only [Act.put, List.setIfInBounds_toArray, List.set_cons_zero, List.set_cons_succ]
              refine wpAnyH_take (i := 7) (oi := ⟨some 84, _, _, _, _, _⟩) (v := ?_) rfl (by kernel_rfl) (by kernel_rfl) (by kernel_rfl) (fun _ _ _ h => h) (Or.inl ⟨by rfl, ?_⟩) (by assumption) ?_
              rotate_left
              · intro w hSw; go_simp; first | done | with_reducible rfl
              try simp only [Act.put, List.setIfInBounds_toArray, List.set_cons_zero, List.set_cons_succ]
              refine wpAnyH_take (i := 8) (oi := ⟨some 85, _, _, _, _, _⟩) (v := ?_) rfl (by kernel_rfl) (by kernel_rfl) (by kernel_rfl) (fun _ _ _ h => h) (Or.inl ⟨by rfl, ?_⟩) (by assumption) ?_
              rotate_left
              · intro w hSw; go_simp; first | done | with_reducible rfl
              try simp only [Act.put, List.setIfInBounds_toArray, List.set_cons_zero, List.set_cons_succ]
              refine wpAnyH_take (i := 9) (oi := ⟨some 86, _, _, _, _, _⟩) (v := ?_) rfl (by kernel_rfl) (by kernel_rfl) (by kernel_rfl) (fun _ _ _ h => h) (Or.inl ⟨by rfl, ?_⟩) (by assumption) ?_
              rotate_left
              · intro w hSw; go_simp; first | done | with_reducible rfl
              try simp only [Act.put, List.setIfInBounds_toArray, List.set_cons_zero, List.set_cons_succ]
              refine wpAnyH_take (i := 10) (oi := ⟨some 87, _, _, _, _, _⟩) (v := ?_) rfl (by kernel_rfl) (by kernel_rfl) (by kernel_rfl) (fun _ _ _ h => h) (Or.inl ⟨by rfl, ?_⟩) (by assumption) ?_
              rotate_left
              · intro w hSw; go_simp; first | done | with_reducible rfl
              try simp only [Act.put, List.setIfInBounds_toArray, List.set_cons_zero, List.set_cons_succ]
              refine wpAnyH_take (i := 11) (oi := ⟨some 88, _, _, _, _, _⟩) (v := ?_) rfl (by kernel_rfl) (by kernel_rfl) (by kernel_rfl) (fun _ _ _ h => h) (Or.inl ⟨by rfl, ?_⟩) (by assumption) ?_
              rotate_left
              · intro w hSw; go_simp; first | done | with_reducible rfl
              try simp only [Act.put, List.setIfInBounds_toArray, List.set_cons_zero, List.set_cons_succ]
              refine wpAnyH_take (i := 12) (oi := ⟨some 89, _, _, _, _, _⟩) (v := ?_) rfl (by kernel_rfl) (by kernel_rfl) (by kernel_rfl) (fun _ _ _ h => h) (Or.inl ⟨by rfl, ?_⟩) (by assumption) ?_
              rotate_left
              · intro w hSw; go_simp; first | done | with_reducible rfl
              try simp only [Act.put, List.setIfInBounds_toArray, List.set_cons_zero, List.set_cons_succ]
              refine wpAnyH_take (i := 13) (oi := ⟨some 90, _, _, _, _, _⟩) (v := ?_) rfl (by kernel_rfl) (by kernel_rfl) (by kernel_rfl) (fun _ _ _ h => h) (Or.inl ⟨by rfl, ?_⟩) (by assumption) ?_
              rotate_left
              · intro w hSw; go_simp; first | done | with_reducible rfl
              try simp only [Act.put, List.setIfInBounds_toArray, List.set_cons_zero, List.set_cons_succ]
              refine wpAnyH_take (i := 14) (oi := ⟨some 91, _, _, _, _, _⟩) (v := ?_) rfl (by kernel_rfl) (by kernel_rfl) (by kernel_rfl) (fun _ _ _ h => h) (Or.inl ⟨by rfl, ?_⟩) (by assumption) ?_
              rotate_left
              · intro w hSw; go_simp; first | done | with_reducible rfl
              try simp only [Act.put, List.setIfInBounds_toArray, List.set_cons_zero, List.set_cons_succ]
              refine wpAnyH_take (i := 15) (oi := ⟨some 92, _, _, _, _, _⟩) (v := ?_) rfl (by kernel_rfl) (by kernel_rfl) (by kernel_rfl) (fun _ _ _ h => h) (Or.inl ⟨by rfl, ?_⟩) (by assumption) ?_
              rotate_left
              · intro w hSw; go_simp; first | done | with_reducible rfl
              try simp only [Act.put, List.setIfInBounds_toArray, List.set_cons_zero, List.set_cons_succ]
              refine wpAnyH_take (i := 16) (oi := ⟨some 93, _, _, _, _, _⟩) (v := ?_) rfl (by kernel_rfl) (by kernel_rfl) (by kernel_rfl) (fun _ _ _ h => h) (Or.inl ⟨by rfl, ?_⟩) (by assumption) ?_
              rotate_left
              · intro w hSw; go_simp; first | done | with_reducible rfl
              try simp only [Act.put, List.setIfInBounds_toArray, List.set_cons_zero, List.set_cons_succ]
              refine wpAnyH_take (i := 17) (oi := ⟨some 94, _, _, _, _, _⟩) (v := ?_) rfl (by kernel_rfl) (by kernel_rfl) (by kernel_rfl) (fun _ _ _ h => h) (Or.inl ⟨by rfl, ?_⟩) (by assumption) ?_
              rotate_left
              · intro w hSw; go_simp; first | done | with_reducible rfl
              try simp only [Act.put, List.setIfInBounds_toArray, List.set_cons_zero, List.set_cons_succ]
              refine wpAnyH_take (i := 18) (oi := ⟨some 95, _, _, _, _, _⟩) (v := ?_) rfl (by kernel_rfl) (by kernel_rfl) (by kernel_rfl) (fun _ _ _ h => h) (Or.inl ⟨by rfl, ?_⟩) (by assumption) ?_
              rotate_left
              · intro w hSw; go_simp; first | done | with_reducible rfl
              try simp only [Act.put, List.setIfInBounds_toArray, List.set_cons_zero, List.set_cons_succ]
              refine wpAnyH_take (i := 19) (oi := ⟨some 96, _, _, _, _, _⟩) (v := ?_) rfl (by kernel_rfl) (by kernel_rfl) (by kernel_rfl) (fun _ _ _ h => h) (Or.inl ⟨by rfl, ?_⟩) (by assumption) ?_
              rotate_left
              · intro w hSw; go_simp; first | done | with_reducible rfl
              try simp only [Act.put, List.setIfInBounds_toArray, List.set_cons_zero, List.set_cons_succ]
              refine wpAnyH_take (i := 20) (oi := ⟨some 97, _, _, _, _, _⟩) (v := ?_) rfl (by kernel_rfl) (by kernel_rfl) (by kernel_rfl) (fun _ _ _ h => h) (Or.inl ⟨by rfl, ?_⟩) (by assumption) ?_
              rotate_left
              · intro w hSw; go_simp; first | done | with_reducible rfl
              try simp only [Act.put, List.setIfInBounds_toArray, List.set_cons_zero, List.set_cons_succ]
              refine wpAnyH_take (i := 21) (oi := ⟨some 98, _, _, _, _, _⟩) (v := ?_) rfl (by kernel_rfl) (by kernel_rfl) (by kernel_rfl) (fun _ _ _ h => h) (Or.inl ⟨by rfl, ?_⟩) (by assumption) ?_
              rotate_left
              · intro w hSw; go_simp; first | done | with_reducible rfl
              try simp only [Act.put, List.setIfInBounds_toArray, List.set_cons_zero, List.set_cons_succ]
              refine wpAnyH_take (i := 22) (oi := ⟨some 99, _, _, _, _, _⟩) (v := ?_) rfl (by kernel_rfl) (by kernel_rfl) (by kernel_rfl) (fun _ _ _ h => h) (Or.inl ⟨by rfl, ?_⟩) (by assumption) ?_
              rotate_left
              · intro w hSw; go_simp; first | done | with_reducible rfl
              try simp only [Act.put, List.setIfInBounds_toArray, List.set_cons_zero, List.set_cons_succ]
              refine wpAnyH_take (i := 23) (oi := ⟨some 100, _, _, _, _, _⟩) (v := ?_) rfl (by kernel_rfl) (by kernel_rfl) (by kernel_rfl) (fun _ _ _ h => h) (Or.inl ⟨by rfl, ?_⟩) (by assumption) ?_
              rotate_left
              · intro w hSw; go_simp; first | done | with_reducible rfl
              try simp only [Act.put, List.setIfInBounds_toArray, List.set_cons_zero, List.set_cons_succ]
              refine wpAnyH_take (i := 24) (oi := ⟨some 101, _, _, _, _, _⟩) (v := ?_) rfl (by kernel_rfl) (by kernel_rfl) (by kernel_rfl) (fun _ _ _ h => h) (Or.inl ⟨by rfl, ?_⟩) (by assumption) ?_
              rotate_left
              · intro w hSw; go_simp; first | done | with_reducible rfl
              try simp only [Act.put, List.setIfInBounds_toArray, List.set_cons_zero, List.set_cons_succ]
              refine wpAnyH_take (i := 25) (oi := ⟨some 102, _, _, _, _, _⟩) (v := ?_) rfl (by kernel_rfl) (by kernel_rfl) (by kernel_rfl) (fun _ _ _ h => h) (Or.inl ⟨by rfl, ?_⟩) (by assumption) ?_
              rotate_left
              · intro w hSw; go_simp; first | done | with_reducible rfl
              try simp only [Act.put, List.setIfInBounds_toArray, List.set_cons_zero, List.set_cons_succ]
              refine wpAnyH_take (i := 26) (oi := ⟨some 103, _, _, _, _, _⟩) (v := ?_) rfl (by kernel_rfl) (by kernel_rfl) (by kernel_rfl) (fun _ _ _ h => h) (Or.inl ⟨by rfl, ?_⟩) (by assumption) ?_
              rotate_left
              · intro w hSw; go_simp; first | done | with_reducible rfl
              try simp only [Act.put, List.setIfInBounds_toArray, List.set_cons_zero, List.set_cons_succ]
              refine wpAnyH_take (i := 27) (oi := ⟨some 104, _, _, _, _, _⟩) (v := ?_) rfl (by kernel_rfl) (by kernel_rfl) (by kernel_rfl) (fun _ _ _ h => h) (Or.inl ⟨by rfl, ?_⟩) (by assumption) ?_
              rotate_left
              · intro w hSw; go_simp; first | done | with_reducible rfl
              try simp only [Act.put, List.setIfInBounds_toArray, List.set_cons_zero, List.set_cons_succ]
              refine wpAnyH_take (i := 28) (oi := ⟨some 105, _, _, _, _, _⟩) (v := ?_) rfl (by kernel_rfl) (by kernel_rfl) (by kernel_rfl) (fun _ _ _ h => h) (Or.inl ⟨by rfl, ?_⟩) (by assumption) ?_
              rotate_left
              · intro w hSw; go_simp; first | done | with_reducible rfl
              try simp only [Act.put, List.setIfInBounds_toArray, List.set_cons_zero, List.set_cons_succ]
              refine wpAnyH_take (i := 29) (oi := ⟨some 106, _, _, _, _, _⟩) (v := ?_) rfl (by kernel_rfl) (by kernel_rfl) (by kernel_rfl) (fun _ _ _ h => h) (Or.inl ⟨by rfl, ?_⟩) (by assumption) ?_
              rotate_left
              · intro w hSw; go_simp; first | done | with_reducible rfl
              try simp only [Act.put, List.setIfInBounds_toArray, List.set_cons_zero, List.set_cons_succ]
              refine wpAnyH_take (i := 30) (oi := ⟨some 107, _, _, _, _, _⟩) (v := ?_) rfl (by kernel_rfl) (by kernel_rfl) (by kernel_rfl) (fun _ _ _ h => h) (Or.inl ⟨by rfl, ?_⟩) (by assumption) ?_
              rotate_left
              · intro w hSw; go_simp; first | done | with_reducible rfl
              try simp only [Act.put, List.setIfInBounds_toArray, List.set_cons_zero, List.set_cons_succ]
              refine wpAnyH_take (i := 31) (oi := ⟨some 108, _, _, _, _, _⟩) (v := ?_) rfl (by kernel_rfl) (by kernel_rfl) (by kernel_rfl) (fun _ _ _ h => h) (Or.inl ⟨by rfl, ?_⟩) (by assumption) ?_
              rotate_left
              · intro w hSw; go_simp; first | done | with_reducible rfl
              try simp only [Act.put, List.setIfInBounds_toArray, List.set_cons_zero, List.set_cons_succ]
              refine wpAnyH_take (i := 32) (oi := ⟨some 109, _, _, _, _, _⟩) (v := ?_) rfl (by kernel_rfl) (by kernel_rfl) (by kernel_rfl) (fun _ _ _ h => h) (Or.inl ⟨by rfl, ?_⟩) (by assumption) ?_
              rotate_left
              · intro w hSw; go_simp; first | done | with_reducible rfl
              try simp only [Act.put, List.setIfInBounds_toArray, List.set_cons_zero, List.set_cons_succ]
              refine wpAnyH_take (i := 33) (oi := ⟨some 110, _, _, _, _, _⟩) (v := ?_) rfl (by kernel_rfl) (by kernel_rfl) (by kernel_rfl) (fun _ _ _ h => h) (Or.inl ⟨by rfl, ?_⟩) (by assumption) ?_
              rotate_left
              · intro w hSw; go_simp; first | done | with_reducible rfl
              try simp only [Act.put, List.setIfInBounds_toArray, List.set_cons_zero, List.set_cons_succ]
              refine wpAnyH_take (i := 34) (oi := ⟨some 111, _, _, _, _, _⟩) (v := ?_) rfl (by kernel_rfl) (by kernel_rfl) (by kernel_rfl) (fun _ _ _ h => h) (Or.inl ⟨by rfl, ?_⟩) (by assumption) ?_
              rotate_left
              · intro w hSw; go_simp; first | done | with_reducible rfl
              try simp only [Act.put, List.setIfInBounds_toArray, List.set_cons_zero, List.set_cons_succ]
              refine wpAnyH_take (i := 35) (oi := ⟨some 112, _, _, _, _, _⟩) (v := ?_) rfl (by kernel_rfl) (by kernel_rfl) (by kernel_rfl) (fun _ _ _ h => h) (Or.inl ⟨by rfl, ?_⟩) (by assumption) ?_
              rotate_left
              · intro w hSw; go_simp; first | done | with_reducible rfl
              try simp only [Act.put, List.setIfInBounds_toArray, List.set_cons_zero, List.set_cons_succ]
              refine wpAnyH_take (i := 36) (oi := ⟨some 113, _, _, _, _, _⟩) (v := ?_) rfl (by kernel_rfl) (by kernel_rfl) (by kernel_rfl) (fun _ _ _ h => h) (Or.inl ⟨by rfl, ?_⟩) (by assumption) ?_
              rotate_left
              · intro w hSw; go_simp; first | done | with_reducible rfl
              try simp only [Act.put, List.setIfInBounds_toArray, List.set_cons_zero, List.set_cons_succ]
              refine wpAnyH_take (i := 37) (oi := ⟨some 114, _, _, _, _, _⟩) (v := ?_) rfl (by kernel_rfl) (by kernel_rfl) (by kernel_rfl) (fun _ _ _ h => h) (Or.inl ⟨by rfl, ?_⟩) (by assumption) ?_
              rotate_left
              · intro w hSw; go_simp; first | done | with_reducible rfl
              try simp only [Act.put, List.setIfInBounds_toArray, List.set_cons_zero, List.set_cons_succ]
              refine wpAnyH_take (i := 38) (oi := ⟨some 115, _, _, _, _, _⟩) (v := ?_) rfl (by kernel_rfl) (by kernel_rfl) (by kernel_rfl) (fun _ _ _ h => h) (Or.inl ⟨by rfl, ?_⟩) (by assumption) ?_
              rotate_left
              · intro w hSw; go_simp; first | done | with_reducible rfl
              try simp only [Act.put, List.setIfInBounds_toArray, List.set_cons_zero, List.set_cons_succ]
              refine wpAnyH_take (i := 39) (oi := ⟨some 116, _, _, _, _, _⟩) (v := ?_) rfl (by kernel_rfl) (by kernel_rfl) (by kernel_rfl) (fun _ _ _ h => h) (Or.inl ⟨by rfl, ?_⟩) (by assumption) ?_
              rotate_left
              · intro w hSw; go_simp; first | done | with_reducible rfl
              try simp only [Act.put, List.setIfInBounds_toArray, List.set_cons_zero, List.set_cons_succ]
              refine wpAnyH_take (i := 40) (oi := ⟨some 117, _, _, _, _, _⟩) (v := ?_) rfl (by kernel_rfl) (by kernel_rfl) (by kernel_rfl) (fun _ _ _ h => h) (Or.inl ⟨by rfl, ?_⟩) (by assumption) ?_
              rotate_left
              · intro w hSw; go_simp; first | done | with_reducible rfl
              try simp only [Act.put, List.setIfInBounds_toArray, List.set_cons_zero, List.set_cons_succ]
              refine wpAnyH_ready (rs := [41]) (by kernel_rfl) (by simp) ?_
              refine AllReadyH.cons (o := ⟨some 118, _, _, _, _, _⟩) rfl (fun K hK => ?_) AllReadyH.nil
              go_simp
              refine HG.out.mono ?_
              rintro r v1 ⟨rfl, hb⟩
              have BG := Lib.hid hb
              have y0' := (BG.out.cell (p := ⟨b6, 0, none⟩) P6.out.lt).trans y0
              have y1' := (BG.out.cell (p := ⟨b6, 0 + 1, none⟩) P6.out.lt).trans y1
              have p0' := (BG.out.cell (p := ⟨tb, to_ + kp * 2, none⟩) ltv).trans p0
              have p1' := (BG.out.cell (p := ⟨tb, to_ + kp * 2 + 1, none⟩) ltv).trans p1
              clear hb HG
              go_simp
              refine hK.out _ _ (⟨y0', y1', p0', p1'⟩) (fun hHeld => ?_)
              clear hK K
              try simp only [Act.put, List.setIfInBounds_toArray, List.set_cons_zero, List.set_cons_succ]
              refine wpAnyH_take (i := 42) (oi := ⟨some 119, _, _, _, _, _⟩) (v := ?_) rfl (by kernel_rfl) (by kernel_rfl) (by kernel_rfl) (fun _ _ _ h => h) (Or.inl ⟨by rfl, ?_⟩) (by assumption) ?_
              rotate_left
              · intro w hSw; go_simp; first | done | with_reducible rfl
              try simp only [Act.put, List.setIfInBounds_toArray, List.set_cons_zero, List.set_cons_succ]
              refine wpAnyH_take (i := 43) (oi := ⟨some 120, _, _, _, _, _⟩) (v := ?_) rfl (by kernel_rfl) (by kernel_rfl) (by kernel_rfl) (fun _ _ _ h => h) (Or.inl ⟨by rfl, ?_⟩) (by assumption) ?_
              rotate_left
              · intro w hSw; go_simp; first | done | with_reducible rfl
              try simp only [Act.put, List.setIfInBounds_toArray, List.set_cons_zero, List.set_cons_succ]
              refine wpAnyH_done (by kernel_rfl) ?_ _
              refine NoPanic.normal ?_
              go_wp2_with fail
              go_roundw
              case rel => exact ⟨k + 1, by omega, by go_num, B0.out.drew.trans (BG.out.mono lz0)⟩
              case measure => simp [intOf]; omega
            · have hd1 : decide (y < py) = false := by have := HBF.out; simp; omega
              have hd2 : (y == py) = false := by simpa using hyy
              clear HBF hyy
              refine wp_region_noPanic ?_
              refine wp_region_held_drew (S := fun v => v.cell? ⟨b6, 0, none⟩ = some (.int .i64 x) ∧ v.cell? ⟨b6, 0 + 1, none⟩ = some (.int .u64 y) ∧ v.cell? ⟨tb, to_ + kp * 2, none⟩ = some (.int .i64 px) ∧ v.cell? ⟨tb, to_ + kp * 2 + 1, none⟩ = some (.int .u64 py)) (by kernel_rfl) (⟨y0, y1, p0, p1⟩) (fun hHeld => ?_)
              refine wpAnyH_take (i := 0) (oi := ⟨some 77, _, _, _, _, _⟩) (v := ?_) rfl (by kernel_rfl) (by kernel_rfl) (by kernel_rfl) (fun _ _ _ h => h) (Or.inl ⟨by rfl, ?_⟩) (by assumption) ?_
              rotate_left
              · intro w hSw; go_simp; first | done | with_reducible rfl
              try simp only [Act.put, List.setIfInBounds_toArray, List.set_cons_zero, List.set_cons_succ]
              refine wpAnyH_take (i := 1) (oi := ⟨some 78, _, _, _, _, _⟩) (v := ?_) rfl (by kernel_rfl) (by kernel_rfl) (by kernel_rfl) (fun _ _ _ h => h) (Or.inl ⟨by rfl, ?_⟩) (by assumption) ?_
              rotate_left
              · intro w hSw; go_simp; first | done | with_reducible rfl
              try simp only [Act.put, List.setIfInBounds_toArray, List.set_cons_zero, List.set_cons_succ]
              refine wpAnyH_take (i := 2) (oi := ⟨some 79, _, _, _, _, _⟩) (v := ?_) rfl (by kernel_rfl) (by kernel_rfl) (by kernel_rfl) (fun _ _ _ h => h) (Or.inl ⟨by rfl, ?_⟩) (by assumption) ?_
              rotate_left
              · intro w hSw; go_simp; first | done | with_reducible rfl
              try simp only [Act.put, List.setIfInBounds_toArray, List.set_cons_zero, List.set_cons_succ]
              refine wpAnyH_take (i := 3) (oi := ⟨some 80, _, _, _, _, _⟩) (v := ?_) rfl (by kernel_rfl) (by kernel_rfl) (by kernel_rfl) (fun _ _ _ h => h) (Or.inl ⟨by rfl, ?_⟩) (by assumption) ?_
              rotate_left
              · intro w hSw; go_simp; first | done | with_reducible rfl
              try simp only [Act.put, List.setIfInBounds_toArray, List.set_cons_zero, List.set_cons_succ]
              refine wpAnyH_take (i := 4) (oi := ⟨some 81, _, _, _, _, _⟩) (v := ?_) rfl (by kernel_rfl) (by kernel_rfl) (by kernel_rfl) (fun _ _ _ h => h) (Or.inl ⟨by rfl, ?_⟩) (by assumption) ?_
              rotate_left
              · intro w hSw; go_simp; first | done | with_reducible rfl
              try simp only [Act.put, List.setIfInBounds_toArray, List.set_cons_zero, List.set_cons_succ]
              refine wpAnyH_take (i := 5) (oi := ⟨some 82, _, _, _, _, _⟩) (v := ?_) rfl (by kernel_rfl) (by kernel_rfl) (by kernel_rfl) (fun _ _ _ h => h) (Or.inl ⟨by rfl, ?_⟩) (by assumption) ?_
              rotate_left
              · intro w hSw; go_simp; first | done | with_reducible rfl
              try simp only [Act.put, List.setIfInBounds_toArray, List.set_cons_zero, List.set_cons_succ]
              refine wpAnyH_take (i := 6) (oi := ⟨some 83, _, _, _, _, _⟩) (v := ?_) rfl (by kernel_rfl) (by kernel_rfl) (by kernel_rfl) (fun _ _ _ h => h) (Or.inl ⟨by rfl, ?_⟩) (by assumption) ?_
              rotate_left
              · intro w hSw; go_simp; first | done | with_reducible rfl
              try simp only [Act.put, List.setIfInBounds_toArray, List.set_cons_zero, List.set_cons_succ]
              refine wpAnyH_take (i := 7) (oi := ⟨some 84, _, _, _, _, _⟩) (v := ?_) rfl (by kernel_rfl) (by kernel_rfl) (by kernel_rfl) (fun _ _ _ h => h) (Or.inl ⟨by rfl, ?_⟩) (by assumption) ?_
              rotate_left
              · intro w hSw; go_simp; first | done | with_reducible rfl
              try simp only [Act.put, List.setIfInBounds_toArray, List.set_cons_zero, List.set_cons_succ]
              refine wpAnyH_take (i := 8) (oi := ⟨some 85, _, _, _, _, _⟩) (v := ?_) rfl (by kernel_rfl) (by kernel_rfl) (by kernel_rfl) (fun _ _ _ h => h) (Or.inl ⟨by rfl, ?_⟩) (by assumption) ?_
              rotate_left
              · intro w hSw; go_simp; first | done | with_reducible rfl
              try simp only [Act.put, List.setIfInBounds_toArray, List.set_cons_zero, List.set_cons_succ]
              refine wpAnyH_take (i := 9) (oi := ⟨some 86, _, _, _, _, _⟩) (v := ?_) rfl (by kernel_rfl) (by kernel_rfl) (by kernel_rfl) (fun _ _ _ h => h) (Or.inl ⟨by rfl, ?_⟩) (by assumption) ?_
              rotate_left
              · intro w hSw; go_simp; first | done | with_reducible rfl
              try simp only [Act.put, List.setIfInBounds_toArray, List.set_cons_zero, List.set_cons_succ]
              refine wpAnyH_take (i := 10) (oi := ⟨some 87, _, _, _, _, _⟩) (v := ?_) rfl (by kernel_rfl) (by kernel_rfl) (by kernel_rfl) (fun _ _ _ h => h) (Or.inl ⟨by rfl, ?_⟩) (by assumption) ?_
              rotate_left
              · intro w hSw; go_simp; first | done | with_reducible rfl
              try simp only [Act.put, List.setIfInBounds_toArray, List.set_cons_zero, List.set_cons_succ]
              refine wpAnyH_take (i := 11) (oi := ⟨some 88, _, _, _, _, _⟩) (v := ?_) rfl (by kernel_rfl) (by kernel_rfl) (by kernel_rfl) (fun _ _ _ h => h) (Or.inl ⟨by rfl, ?_⟩) (by assumption) ?_
              rotate_left
              · intro w hSw; go_simp; first | done | with_reducible rfl
              try simp only [Act.put, List.setIfInBounds_toArray, List.set_cons_zero, List.set_cons_succ]
              refine wpAnyH_take (i := 12) (oi := ⟨some 89, _, _, _, _, _⟩) (v := ?_) rfl (by kernel_rfl) (by kernel_rfl) (by kernel_rfl) (fun _ _ _ h => h) (Or.inl ⟨by rfl, ?_⟩) (by assumption) ?_
              rotate_left
              · intro w hSw; go_simp; first | done | with_reducible rfl
              try simp only [Act.put, List.setIfInBounds_toArray, List.set_cons_zero, List.set_cons_succ]
              refine wpAnyH_take (i := 13) (oi := ⟨some 90, _, _, _, _, _⟩) (v := ?_) rfl (by kernel_rfl) (by kernel_rfl) (by kernel_rfl) (fun _ _ _ h => h) (Or.inl ⟨by rfl, ?_⟩) (by assumption) ?_
              rotate_left
              · intro w hSw; go_simp; first | done | with_reducible rfl
              try simp only [Act.put, List.setIfInBounds_toArray, List.set_cons_zero, List.set_cons_succ]
              refine wpAnyH_take (i := 14) (oi := ⟨some 91, _, _, _, _, _⟩) (v := ?_) rfl (by kernel_rfl) (by kernel_rfl) (by kernel_rfl) (fun _ _ _ h => h) (Or.inl ⟨by rfl, ?_⟩) (by assumption) ?_
              rotate_left
              · intro w hSw; go_simp; first | done | with_reducible rfl
              try simp only [Act.put, List.setIfInBounds_toArray, List.set_cons_zero, List.set_cons_succ]
              refine wpAnyH_take (i := 15) (oi := ⟨some 92, _, _, _, _, _⟩) (v := ?_) rfl (by kernel_rfl) (by kernel_rfl) (by kernel_rfl) (fun _ _ _ h => h) (Or.inl ⟨by rfl, ?_⟩) (by assumption) ?_
              rotate_left
              · intro w hSw; go_simp; first | done | with_reducible rfl
              try simp only [Act.put, List.setIfInBounds_toArray, List.set_cons_zero, List.set_cons_succ]
              refine wpAnyH_take (i := 16) (oi := ⟨some 93, _, _, _, _, _⟩) (v := ?_) rfl (by kernel_rfl) (by kernel_rfl) (by kernel_rfl) (fun _ _ _ h => h) (Or.inl ⟨by rfl, ?_⟩) (by assumption) ?_
              rotate_left
              · intro w hSw; go_simp; first | done | with_reducible rfl
              try simp only [Act.put, List.setIfInBounds_toArray, List.set_cons_zero, List.set_cons_succ]
              refine wpAnyH_take (i := 17) (oi := ⟨some 94, _, _, _, _, _⟩) (v := ?_) rfl (by kernel_rfl) (by kernel_rfl) (by kernel_rfl) (fun _ _ _ h => h) (Or.inl ⟨by rfl, ?_⟩) (by assumption) ?_
              rotate_left
              · intro w hSw; go_simp; first | done | with_reducible rfl
              try simp only [Act.put, List.setIfInBounds_toArray, List.set_cons_zero, List.set_cons_succ]
              refine wpAnyH_take (i := 18) (oi := ⟨some 95, _, _, _, _, _⟩) (v := ?_) rfl (by kernel_rfl) (by kernel_rfl) (by kernel_rfl) (fun _ _ _ h => h) (Or.inl ⟨by rfl, ?_⟩) (by assumption) ?_
              rotate_left
              · intro w hSw; go_simp; first | done | with_reducible rfl
              try simp only [Act.put, List.setIfInBounds_toArray, List.set_cons_zero, List.set_cons_succ]
              refine wpAnyH_take (i := 19) (oi := ⟨some 96, _, _, _, _, _⟩) (v := ?_) rfl (by kernel_rfl) (by kernel_rfl) (by kernel_rfl) (fun _ _ _ h => h) (Or.inl ⟨by rfl, ?_⟩) (by assumption) ?_
              rotate_left
              · intro w hSw; go_simp; first | done | with_reducible rfl
              try simp only [Act.put, List.setIfInBounds_toArray, List.set_cons_zero, List.set_cons_succ]
              refine wpAnyH_take (i := 20) (oi := ⟨some 97, _, _, _, _, _⟩) (v := ?_) rfl (by kernel_rfl) (by kernel_rfl) (by kernel_rfl) (fun _ _ _ h => h) (Or.inl ⟨by rfl, ?_⟩) (by assumption) ?_
              rotate_left
              · intro w hSw; go_simp; first | done | with_reducible rfl
              try simp only [Act.put, List.setIfInBounds_toArray, List.set_cons_zero, List.set_cons_succ]
              refine wpAnyH_take (i := 21) (oi := ⟨some 98, _, _, _, _, _⟩) (v := ?_) rfl (by kernel_rfl) (by kernel_rfl) (by kernel_rfl) (fun _ _ _ h => h) (Or.inl ⟨by rfl, ?_⟩) (by assumption) ?_
              rotate_left
              · intro w hSw; go_simp; first | done | with_reducible rfl
              try simp only [Act.put, List.setIfInBounds_toArray, List.set_cons_zero, List.set_cons_succ]
              refine wpAnyH_take (i := 22) (oi := ⟨some 99, _, _, _, _, _⟩) (v := ?_) rfl (by kernel_rfl) (by kernel_rfl) (by kernel_rfl) (fun _ _ _ h => h) (Or.inl ⟨by rfl, ?_⟩) (by assumption) ?_
              rotate_left
              · intro w hSw; go_simp; first | done | with_reducible rfl
              try simp only [Act.put, List.setIfInBounds_toArray, List.set_cons_zero, List.set_cons_succ]
              refine wpAnyH_take (i := 23) (oi := ⟨some 100, _, _, _, _, _⟩) (v := _) rfl (by kernel_rfl) (by kernel_rfl) (by kernel_rfl) (fun _ _ _ h => h) (Or.inr ⟨by rfl, rfl⟩) (by assumption) ?_
              try simp only [Act.put, List.setIfInBounds_toArray, List.set_cons_zero, List.set_cons_succ]
              refine wpAnyH_take (i := 24) (oi := ⟨some 101, _, _, _, _, _⟩) (v := _) rfl (by kernel_rfl) (by kernel_rfl) (by kernel_rfl) (fun _ _ _ h => h) (Or.inr ⟨by rfl, rfl⟩) (by assumption) ?_
              try simp only [Act.put, List.setIfInBounds_toArray, List.set_cons_zero, List.set_cons_succ]
              refine wpAnyH_take (i := 25) (oi := ⟨some 102, _, _, _, _, _⟩) (v := _) rfl (by kernel_rfl) (by kernel_rfl) (by kernel_rfl) (fun _ _ _ h => h) (Or.inr ⟨by rfl, rfl⟩) (by assumption) ?_
              try simp only [Act.put, List.setIfInBounds_toArray, List.set_cons_zero, List.set_cons_succ]
              refine wpAnyH_take (i := 26) (oi := ⟨some 103, _, _, _, _, _⟩) (v := _) rfl (by kernel_rfl) (by kernel_rfl) (by kernel_rfl) (fun _ _ _ h => h) (Or.inr ⟨by rfl, rfl⟩) (by assumption) ?_
              try simp only [Act.put, List.setIfInBounds_toArray, List.set_cons_zero, List.set_cons_succ]
              refine wpAnyH_take (i := 27) (oi := ⟨some 104, _, _, _, _, _⟩) (v := _) rfl (by kernel_rfl) (by kernel_rfl) (by kernel_rfl) (fun _ _ _ h => h) (Or.inr ⟨by rfl, rfl⟩) (by assumption) ?_
              try simp only [Act.put, List.setIfInBounds_toArray, List.set_cons_zero, List.set_cons_succ]
              refine wpAnyH_take (i := 28) (oi := ⟨some 105, _, _, _, _, _⟩) (v := _) rfl (by kernel_rfl) (by kernel_rfl) (by kernel_rfl) (fun _ _ _ h => h) (Or.inr ⟨by rfl, rfl⟩) (by assumption) ?_
              try simp only [Act.put, List.setIfInBounds_toArray, List.set_cons_zero, List.set_cons_succ]
              refine wpAnyH_take (i := 29) (oi := ⟨some 106, _, _, _, _, _⟩) (v := _) rfl (by kernel_rfl) (by kernel_rfl) (by kernel_rfl) (fun _ _ _ h => h) (Or.inr ⟨by rfl, rfl⟩) (by assumption) ?_
              try simp only [Act.put, List.setIfInBounds_toArray, List.set_cons_zero, List.set_cons_succ]
              refine wpAnyH_take (i := 30) (oi := ⟨some 107, _, _, _, _, _⟩) (v := _) rfl (by kernel_rfl) (by kernel_rfl) (by kernel_rfl) (fun _ _ _ h => h) (Or.inr ⟨by rfl, rfl⟩) (by assumption) ?_
              try simp only [Act.put, List.setIfInBounds_toArray, List.set_cons_zero, List.set_cons_succ]
              refine wpAnyH_take (i := 31) (oi := ⟨some 108, _, _, _, _, _⟩) (v := _) rfl (by kernel_rfl) (by kernel_rfl) (by kernel_rfl) (fun _ _ _ h => h) (Or.inr ⟨by rfl, rfl⟩) (by assumption) ?_
              try simp only [Act.put, List.setIfInBounds_toArray, List.set_cons_zero, List.set_cons_succ]
              refine wpAnyH_take (i := 32) (oi := ⟨some 109, _, _, _, _, _⟩) (v := ?_) rfl (by kernel_rfl) (by kernel_rfl) (by kernel_rfl) (fun _ _ _ h => h) (Or.inl ⟨by rfl, ?_⟩) (by assumption) ?_
              rotate_left
              · intro w hSw; go_simp; first | done | with_reducible rfl
              try simp only [Act.put, List.setIfInBounds_toArray, List.set_cons_zero, List.set_cons_succ]
              refine wpAnyH_take (i := 33) (oi := ⟨some 110, _, _, _, _, _⟩) (v := ?_) rfl (by kernel_rfl) (by kernel_rfl) (by kernel_rfl) (fun _ _ _ h => h) (Or.inl ⟨by rfl, ?_⟩) (by assumption) ?_
              rotate_left
              · intro w hSw; go_simp; first | done | with_reducible rfl
              try simp only [Act.put, List.setIfInBounds_toArray, List.set_cons_zero, List.set_cons_succ]
              refine wpAnyH_take (i := 34) (oi := ⟨some 111, _, _, _, _, _⟩) (v := ?_) rfl (by kernel_rfl) (by kernel_rfl) (by kernel_rfl) (fun _ _ _ h => h) (Or.inl ⟨by rfl, ?_⟩) (by assumption) ?_
              rotate_left
              · intro w hSw; go_simp; first | done | with_reducible rfl
              try simp only [Act.put, List.setIfInBounds_toArray, List.set_cons_zero, List.set_cons_succ]
              refine wpAnyH_take (i := 35) (oi := ⟨some 112, _, _, _, _, _⟩) (v := ?_) rfl (by kernel_rfl) (by kernel_rfl) (by kernel_rfl) (fun _ _ _ h => h) (Or.inl ⟨by rfl, ?_⟩) (by assumption) ?_
              rotate_left
              · intro w hSw; go_simp; first | done | with_reducible rfl
              try simp only [Act.put, List.setIfInBounds_toArray, List.set_cons_zero, List.set_cons_succ]
              refine wpAnyH_take (i := 36) (oi := ⟨some 113, _, _, _, _, _⟩) (v := ?_) rfl (by kernel_rfl) (by kernel_rfl) (by kernel_rfl) (fun _ _ _ h => h) (Or.inl ⟨by rfl, ?_⟩) (by assumption) ?_
              rotate_left
              · intro w hSw; go_simp; first | done | with_reducible rfl
              try simp only [Act.put, List.setIfInBounds_toArray, List.set_cons_zero, List.set_cons_succ]
              refine wpAnyH_take (i := 37) (oi := ⟨some 114, _, _, _, _, _⟩) (v := ?_) rfl (by kernel_rfl) (by kernel_rfl) (by kernel_rfl) (fun _ _ _ h => h) (Or.inl ⟨by rfl, ?_⟩) (by assumption) ?_
              rotate_left
              · intro w hSw; go_simp; first | done | with_reducible rfl
              try simp only [Act.put, List.setIfInBounds_toArray, List.set_cons_zero, List.set_cons_succ]
              refine wpAnyH_take (i := 38) (oi := ⟨some 115, _, _, _, _, _⟩) (v := ?_) rfl (by kernel_rfl) (by kernel_rfl) (by kernel_rfl) (fun _ _ _ h => h) (Or.inl ⟨by rfl, ?_⟩) (by assumption) ?_
              rotate_left
              · intro w hSw; go_simp; first | done | with_reducible rfl
              try simp only [Act.put, List.setIfInBounds_toArray, List.set_cons_zero, List.set_cons_succ]
              refine wpAnyH_take (i := 39) (oi := ⟨some 116, _, _, _, _, _⟩) (v := ?_) rfl (by kernel_rfl) (by kernel_rfl) (by kernel_rfl) (fun _ _ _ h => h) (Or.inl ⟨by rfl, ?_⟩) (by assumption) ?_
              rotate_left
              · intro w hSw; go_simp; first | done | with_reducible rfl
              try simp only [Act.put, List.setIfInBounds_toArray, List.set_cons_zero, List.set_cons_succ]
              refine wpAnyH_take (i := 40) (oi := ⟨some 117, _, _, _, _, _⟩) (v := ?_) rfl (by kernel_rfl) (by kernel_rfl) (by kernel_rfl) (fun _ _ _ h => h) (Or.inl ⟨by rfl, ?_⟩) (by assumption) ?_
              rotate_left
              · intro w hSw; go_simp; first | done | with_reducible rfl
              try simp only [Act.put, List.setIfInBounds_toArray, List.set_cons_zero, List.set_cons_succ]
              refine wpAnyH_ready (rs := [41]) (by kernel_rfl) (by simp) ?_
              refine AllReadyH.cons (o := ⟨some 118, _, _, _, _, _⟩) rfl (fun K hK => ?_) AllReadyH.nil
              go_simp
              refine HG.out.mono ?_
              rintro r v1 ⟨rfl, hb⟩
              have BG := Lib.hid hb
              have y0' := (BG.out.cell (p := ⟨b6, 0, none⟩) P6.out.lt).trans y0
              have y1' := (BG.out.cell (p := ⟨b6, 0 + 1, none⟩) P6.out.lt).trans y1
              have p0' := (BG.out.cell (p := ⟨tb, to_ + kp * 2, none⟩) ltv).trans p0
              have p1' := (BG.out.cell (p := ⟨tb, to_ + kp * 2 + 1, none⟩) ltv).trans p1
              clear hb HG
              go_simp
              refine hK.out _ _ (⟨y0', y1', p0', p1'⟩) (fun hHeld => ?_)
              clear hK K
              try simp only [Act.put, List.setIfInBounds_toArray, List.set_cons_zero, List.set_cons_succ]
              refine wpAnyH_take (i := 42) (oi := ⟨some 119, _, _, _, _, _⟩) (v := ?_) rfl (by kernel_rfl) (by kernel_rfl) (by kernel_rfl) (fun _ _ _ h => h) (Or.inl ⟨by rfl, ?_⟩) (by assumption) ?_
              rotate_left
              · intro w hSw; go_simp; first | done | with_reducible rfl
              try simp only [Act.put, List.setIfInBounds_toArray, List.set_cons_zero, List.set_cons_succ]
              refine wpAnyH_take (i := 43) (oi := ⟨some 120, _, _, _, _, _⟩) (v := ?_) rfl (by kernel_rfl) (by kernel_rfl) (by kernel_rfl) (fun _ _ _ h => h) (Or.inl ⟨by rfl, ?_⟩) (by assumption) ?_
              rotate_left
              · intro w hSw; go_simp; first | done | with_reducible rfl
              try simp only [Act.put, List.setIfInBounds_toArray, List.set_cons_zero, List.set_cons_succ]
              refine wpAnyH_done (by kernel_rfl) ?_ _
              refine NoPanic.normal ?_
              go_wp2_with fail
              go_roundw
              case rel => exact ⟨k + 1, by omega, by go_num, B0.out.drew.trans (BG.out.mono lz0)⟩
              case measure => simp [intOf]; omega
        · obtain rfl : k = L.length := by omega
          have hnn : ¬ (L.length : Int) < L.length := by omega
          clear hlt
          have HPQ := Lib.hid (HP.out.below BQ.out (Nat.le_refl _))
          have HCP := Lib.hid (copy_any HPQ.out)
          unfold mkPost at HCP
          go_wp2_with fail
          refine HCP.out.mono ?_
          rintro r w3 ⟨g2, rfl, hp, hb⟩
          have hz3 := hb.size
          have h30 := hb
          have BQ3 := BQ.out.trans (hb.mono hzq)
          have HB3 : Hid (B3 N w3 g g2 L L [(A, L, c)]) := by
            refine ⟨fun j => N ≤ j ∧ j < B1, fun j => wr.heap.size ≤ j ∧ j < w3.heap.size, HPQ.out.below hb (Nat.le_refl _), hp.tight, fun j hj => ⟨hj.1, by omega, fun h => by omega⟩, fun j hj => ⟨by omega, hj.2⟩, fun o ho => ?_, by omega⟩
            rw [List.mem_singleton] at ho
            subst ho
            exact ⟨LA.out.below BQ3 (Nat.le_refl _), fun a ha => ⟨by have := (AD.out a ha).2; omega, fun h => by have := (AD.out a ha).1; omega, fun h => by have := (AD.out a ha).2; omega⟩⟩
          have BL3 := Lib.hid (BL2.out.trans (BQ3.mono (by omega)))
          clear hp hb HCP HPQ BQ3 h30 HP LA AD BL2 BQ hnn
          go_wp2_with fail
          obtain ⟨lt, hlm⟩ : ∃ z, z = max now later := ⟨_, rfl⟩
          have h12 : now ≤ lt := by omega
          rw [← hlm]
          clear hlm
          obtain ⟨Aa, hAa⟩ : ∃ z, z = L.take (dueK L now) := ⟨_, rfl⟩
          obtain ⟨R1, hR1⟩ : ∃ z, z = L.drop (dueK L now) := ⟨_, rfl⟩
          obtain ⟨Bb, hBb⟩ : ∃ z, z = R1.take (dueK R1 lt) := ⟨_, rfl⟩
          obtain ⟨R2, hR2⟩ : ∃ z, z = R1.drop (dueK R1 lt) := ⟨_, rfl⟩
          obtain ⟨k3, hk3⟩ : ∃ z, z = dueK L lt := ⟨_, rfl⟩
          have hk3l : k3 ≤ L.length := by rw [hk3]; exact dueK_le _ _
          have e2 : k3 = dueK L now + dueK R1 lt := by rw [hk3, hR1]; exact dueK_two SR.out h12
          have eR : R2 = L.drop k3 := by rw [hR2, hR1, List.drop_drop, ← hR1, e2]
          have eC : Aa ++ Bb = L.take k3 := by rw [hAa, hBb, e2, List.take_add, ← hR1]
          obtain ⟨Cc, hCc⟩ : ∃ z, z = L.take k3 := ⟨_, rfl⟩
          have hCl : Cc.length = k3 := by rw [hCc, List.length_take]; omega
          have hAB : Aa.length + Bb.length = k3 := by rw [← hCl, hCc, ← eC, List.length_append]
          have DA : Hid (∀ x ∈ Aa, isDue x.2 now) := by show ∀ x ∈ Aa, _; rw [hAa]; exact (due_take SR.out).1
          have DR : Hid (∀ x ∈ L.drop k3, ¬ isDue x.2 lt) := by show ∀ x ∈ _, _; rw [hk3]; exact (due_take SR.out).2
          have HD1 := Lib.hid (HB3.out.due1 now hAa hR1)
          have HC := Lib.hid (hCc.trans eC.symm); have HCC := Lib.hid hCc
          have HR2 := Lib.hid eR; have HBb := Lib.hid hBb; have HR2' := Lib.hid hR2; have HK3 := Lib.hid hk3
          have hSz := HB3.out.sz
          clear hAa hR1 hBb hR2 hk3 e2 eR eC hCc HB3
          refine HD1.out.mono ?_
          rintro r w4 ⟨A1, c1, rfl, hbo, hb⟩
          have BL4 := Lib.hid (BL3.out.trans hb)
          have hc1 := Rs.max (hbo.li (List.mem_cons_self ..))
          have HD2 := Lib.hid (hbo.due1 lt HBb.out HR2'.out)
          clear hbo hb HD1 BL3
          go_wp2_with fail
          refine HD2.out.mono ?_
          rintro r w5 ⟨A2, c2, rfl, hbo, hb⟩
          have BL5 := Lib.hid (BL4.out.trans hb)
          have hc2 := Rs.max (hbo.li (List.mem_cons_self ..))
          have HD3 := Lib.hid (hbo.due2 lt (M := Cc) (T := L.drop k3) (by rw [HCC.out, HK3.out]) (by rw [HK3.out]))
          clear hbo hb HD2 BL4
          go_wp2_with fail
          refine HD3.out.mono ?_
          rintro r w6 ⟨A3, c3, rfl, hbo, hb⟩
          rw [HR2.out] at hbo
          have BL6 := Lib.hid (BL5.out.trans hb)
          have hc3 := Rs.max (hbo.li (List.mem_cons_self ..))
          have HB := Lib.hid hbo
          have hz6 := hbo.sz
          clear hbo hb HD3 BL5 HBb HR2' HR2
          rw [hCl]
          have hA1l : Aa.length ≤ 1048576 := by omega
          have hB1l : Bb.length ≤ 1048576 := by omega
          have hk3m : k3 ≤ 1048576 := by omega
          have hne : ((Aa.length : Int) + (Bb.length : Int) != (k3 : Int)) = false := by simp; omega
          have hle : (k3 : Int) ≤ (L.length : Int) := by omega
          have hk30 : (0 : Int) ≤ (k3 : Int) := by omega
          have hA0 : (0 : Int) ≤ (Aa.length : Int) := by omega
          have LtA := HB.out.li (A := A1) (L := Aa) (c := c1) (by simp)
          have S1 := Lib.hid (Rs.src (P := Try.prog) Try.underlying26 LtA (by omega) (tv_one _))
          go_wp2_with (refine wpList_mineG (by go_simp) _ _ elT _ rfl rfl (Mine.nil w6.heap.size 2 w6) _ rfl Aa.length _ S1.out (by omega) (by omega) (Nat.le_refl _) ?_)
          intro A4 c4 w7 m7 g7
          try simp only [List.nil_append, Nat.zero_add] at m7
          have M7 : Hid (Mine w6.heap.size 2 w7 A4 Aa.length c4 (tv Aa)) := m7
          have B7 := (only_row (A := none) (F := fun j => w6.heap.size ≤ j) g7 (fun b hb => by cases hb)).below (fun _ h => h) (Nat.le_refl _)
          have HB7 := Lib.hid (HB.out.below B7)
          have BB7 := Lib.hid B7
          have BL7 := Lib.hid (BL6.out.trans (B7.mono hz6))
          have hz7 := B7.size
          have LtB := HB7.out.li (A := A2) (L := Bb) (c := c2) (by simp)
          have S2 := Lib.hid (Rs.src (P := Try.prog) Try.underlying26 LtB (by omega) (tv_one _))
          clear m7 g7 B7 S1 LtA LtB
          try simp only [Nat.zero_add]
          go_wp2_with (refine wpList_mineG (by go_simp) _ _ elT _ rfl rfl M7.out _ rfl Bb.length _ S2.out (by omega) (by omega) hz7 ?_)
          intro A8 c8 w8 m8 g8
          have M8 : Hid (Mine w6.heap.size 2 w8 A8 k3 c8 (tv Cc)) := by
            show Mine _ _ _ _ _ _ _
            rw [HC.out, tv_append]
            have := m8
            first | exact this | (rw [hAB] at this; exact this)
          have B8 : Hid (Below w6.heap.size w7 w8) := (only_row (F := fun j => w6.heap.size ≤ j) g8 (fun a ha => (M7.out.base ha).1)).below (fun _ h => h) hz7
          have hb8 := BB7.out.trans B8.out
          have HB8 := Lib.hid (HB.out.below hb8)
          have BL8 := Lib.hid (BL6.out.trans (hb8.mono hz6))
          have hz8 := HB8.out.sz
          have HLC : Hid (∀ u : World, B3 N u g g2 (L.drop k3) (L.drop k3) [(A3, Cc, c3), (A2, Bb, c2), (A1, Aa, c1), (A, L, c)] → Rs u 2 A3 k3 c3 (tv Cc)) := fun u h => by
            have := h.li (A := A3) (L := Cc) (c := c3) (by simp)
            unfold Lt at this
            rw [hCl] at this
            exact this
          have HLP : Hid (∀ u : World, B3 N u g g2 (L.drop k3) (L.drop k3) [(A3, Cc, c3), (A2, Bb, c2), (A1, Aa, c1), (A, L, c)] → Rs u 2 A k3 c (tv Cc)) := fun u h => by
            have := rs_pre (h.li (A := A) (L := L) (c := c) (by simp)) hk3l
            rw [tv_take, ← HCC.out] at this
            exact this
          have HLR : Hid (∀ u : World, B3 N u g g2 (L.drop k3) (L.drop k3) [(A3, Cc, c3), (A2, Bb, c2), (A1, Aa, c1), (A, L, c)] → Rs u 2 (cutM A 2 k3 c) (L.length - k3) (c - k3) (tv (L.drop k3))) := fun u h => by
            have := rs_cut (h.li (A := A) (L := L) (c := c) (by simp)) hk3l
            rw [tv_drop] at this
            exact this
          have hlc : L.length ≤ c := Rs.le (HB8.out.li (A := A) (L := L) (c := c) (by simp))
          have hkc : (k3 : Int) ≤ (c : Int) := by omega
          have HS1 := Lib.hid (same_true hCl (Rs.mine M8.out) (HLC.out _ HB8.out) (by omega))
          unfold boolTo at HS1
          clear hb8 m8 g8 B8 M7 S2 HB7 BB7 HB BL7 BL6
          go_wp2_with fail
          refine HS1.out.mono ?_
          rintro r w9 ⟨rfl, hb⟩
          have HB9 := Lib.hid (HB8.out.below hb)
          have BL9 := Lib.hid (BL8.out.trans (hb.mono hz8))
          have hz9 := HB9.out.sz
          clear hb HS1 HB8 BL8 M8
          go_wp2_with fail
          have HS2 := Lib.hid (same_true hCl (HLC.out _ HB9.out) (HLP.out _ HB9.out) (by omega))
          unfold boolTo at HS2
          refine HS2.out.mono ?_
          rintro r w10 ⟨rfl, hb⟩
          have HB10 := Lib.hid (HB9.out.below hb)
          have BL10 := Lib.hid (BL9.out.trans (hb.mono hz9))
          have hz10 := HB10.out.sz
          clear hb HS2 HB9 BL9
          go_wp2_with fail
          have HK3L := Lib.hid hk3l
          repeat (rename ¬ L.length < k3 => h9; clear h9)
          clear hne hle hkc hk30 hA0 hk3l
          go_loopw [194] (fun i wx => ∃ (k : Nat), k ≤ Aa.length ∧ i = .int .i64 (k : Int) ∧ Below w10.heap.size w10 wx) (fun i _ => Aa.length - (intOf i).toNat)
          case atStart => exact ⟨0, Nat.zero_le _, rfl, Below.refl _ _⟩
          case round =>
            obtain ⟨k, hk, rfl, hbl⟩ := hrel
            have BQ := Lib.hid hbl
            have hzq := hbl.size
            clear hbl
            by_cases hlt : k < Aa.length
            · have j1 : (k : Int) < (Aa.length : Int) := by omega
              obtain ⟨ab, ao, rfl, ltb, a0, a1⟩ := ((HB10.out.li (A := A1) (L := Aa) (c := c1) (by simp)).below BQ.out (Nat.le_refl _)).at_ hlt
              have hda := DA.out Aa[k] (List.getElem_mem hlt)
              obtain ⟨⟨x, y⟩, hx⟩ : ∃ x, x = Aa[k] := ⟨_, rfl⟩
              rw [← hx] at a0 a1 hda
              have hy1 : y ≤ now := hda.2
              have hy2 : (y == 18446744073709551615) = false := by simpa using hda.1
              simp only at a0 a1
              clear hda hx
              obtain ⟨v0, hv0⟩ : ∃ v0, v0 = wr.alloc (.cells #[.int .i64 x, .int .u64 y] 41) := ⟨_, rfl⟩
              obtain ⟨b6, hb6⟩ : ∃ b6, b6 = wr.heap.size := ⟨_, rfl⟩
              have b0 : Below wr.heap.size wr v0 := by rw [hv0]; exact bnew _ _
              have P6 : Hid (Blk v0 b6 #[.int .i64 x, .int .u64 y] 41) := by show Blk _ _ _ _; rw [hv0, hb6]; exact Blk.new _ _ _
              have B0 := Lib.hid (BQ.out.trans (b0.mono hzq))
              clear b0
              go_upto_region 38 with (fail)
              rw [← hv0, ← hb6]
              clear hv0 hb6 a0 a1
              obtain ⟨y0, y1, _⟩ := P6.out.two
              go_wp2_with fail
              go_roundw
              case rel => exact ⟨k + 1, by omega, by go_num, B0.out⟩
              case measure => simp [intOf]; omega
            · obtain rfl : k = Aa.length := by omega
              have hnn : ¬ (Aa.length : Int) < Aa.length := by omega
              clear hlt
              have HB11 := Lib.hid (HB10.out.below BQ.out)
              have BL11 := Lib.hid (BL10.out.trans (BQ.out.mono hz10))
              have hz11 := HB11.out.sz
              clear HB10 BL10 BQ
              have hk3l := HK3L.out
              have hle : (k3 : Int) ≤ (L.length : Int) := by omega
              have hkc : (k3 : Int) ≤ (c : Int) := by omega
              have hk30 : (0 : Int) ≤ (k3 : Int) := by omega
              go_upto_region 41 with (fail)
              obtain ⟨TT, hTT⟩ : ∃ z, z = L.drop k3 := ⟨_, rfl⟩
              have HTL : Hid (L.length - k3 = TT.length) := by show _ = _; rw [hTT, List.length_drop]
              rw [← hTT] at HB11 DR HLR
              clear hTT HLC HLP
              have HB12 := Lib.hid (HB11.out.below ((Below.refl wr.heap.size wr).drew))
              have BL12 := Lib.hid (BL11.out.trans (((Below.refl wr.heap.size wr).drew).mono hz11))
              have hz12 := HB12.out.sz
              have HL1 := Lib.hid HB12.out.list1
              have hTm : TT.length ≤ 1048576 := by rw [← HTL.out]; omega
              clear HB11 BL11
              by_cases hcK : c = k3
              · have hcS := hcK.symm
                subst hcS
                have HT0 : Hid (TT.length = 0) := by show _ = _; rw [← HTL.out]; omega
                cases A with
                | none =>
                  have HXR : Hid (∀ u : World, B3 N u g g2 TT TT [(A3, Cc, c3), (A2, Bb, c2), (A1, Aa, c1), (none, L, k3)] → Rs u 2 none 0 0 (tv TT)) := fun u h => by
                    have := HLR.out u h
                    rw [show cutM none 2 k3 k3 = none from if_pos rfl, HTL.out, HT0.out, Nat.sub_self] at this
                    exact this
                  clear HLR
                  refine wp_region_noPanic ?_
                  refine wp_region_held_drew (S := fun _ => True) (by kernel_rfl) (trivial) (fun hHeld => ?_)
                  refine wpAnyH_take (i := 0) (oi := ⟨some 208, _, _, _, _, _⟩) (v := ?_) rfl (by kernel_rfl) (by kernel_rfl) (by kernel_rfl) (fun _ _ _ h => h) (Or.inl ⟨by rfl, ?_⟩) (by assumption) ?_
                  rotate_left
                  · intro w hSw; go_simp; first | done | with_reducible rfl
                  try simp only [Act.put, List.setIfInBounds_toArray, List.set_cons_zero, List.set_cons_succ]
                  refine wpAnyH_take (i := 2) (oi := ⟨some 210, _, _, _, _, _⟩) (v := ?_) rfl (by kernel_rfl) (by kernel_rfl) (by kernel_rfl) (fun _ _ _ h => h) (Or.inl ⟨by rfl, ?_⟩) (by assumption) ?_
                  rotate_left
                  · intro w hSw; go_simp; first | done | with_reducible rfl
                  try simp only [Act.put, List.setIfInBounds_toArray, List.set_cons_zero, List.set_cons_succ]
                  refine wpAnyH_take (i := 3) (oi := ⟨some 211, _, _, _, _, _⟩) (v := ?_) rfl (by kernel_rfl) (by kernel_rfl) (by kernel_rfl) (fun _ _ _ h => h) (Or.inl ⟨by rfl, ?_⟩) (by assumption) ?_
                  rotate_left
                  · intro w hSw; go_simp; first | done | with_reducible rfl
                  try simp only [Act.put, List.setIfInBounds_toArray, List.set_cons_zero, List.set_cons_succ]
                  refine wpAnyH_take (i := 4) (oi := ⟨some 212, _, _, _, _, _⟩) (v := ?_) rfl (by kernel_rfl) (by kernel_rfl) (by kernel_rfl) (fun _ _ _ h => h) (Or.inl ⟨by rfl, ?_⟩) (by assumption) ?_
                  rotate_left
                  · intro w hSw; go_simp; first | done | with_reducible rfl
                  try simp only [Act.put, List.setIfInBounds_toArray, List.set_cons_zero, List.set_cons_succ]
                  refine wpAnyH_take (i := 5) (oi := ⟨some 213, _, _, _, _, _⟩) (v := ?_) rfl (by kernel_rfl) (by kernel_rfl) (by kernel_rfl) (fun _ _ _ h => h) (Or.inl ⟨by rfl, ?_⟩) (by assumption) ?_
                  rotate_left
                  · intro w hSw; go_simp; first | done | with_reducible rfl
                  try simp only [Act.put, List.setIfInBounds_toArray, List.set_cons_zero, List.set_cons_succ]
                  refine wpAnyH_ready (rs := [1]) (by kernel_rfl) (by simp) ?_
                  refine AllReadyH.cons (o := ⟨some 209, _, _, _, _, _⟩) rfl (fun K hK => ?_) AllReadyH.nil
                  go_simp
                  refine HL1.out.mono ?_
                  rintro r v1 ⟨R1, d1, rfl, hl, hb⟩
                  have LL1 := Lib.hid hl
                  have HBv1 := Lib.hid (HB12.out.below hb)
                  have BLv1 := Lib.hid (BL12.out.trans (hb.mono hz12))
                  have hzv1 := HBv1.out.sz
                  clear hb hl HL1
                  go_simp
                  refine hK.out _ _ (trivial) (fun hHeld => ?_)
                  clear hK K
                  try simp only [Act.put, List.setIfInBounds_toArray, List.set_cons_zero, List.set_cons_succ]
                  refine wpAnyH_ready (rs := [6]) (by kernel_rfl) (by simp) ?_
                  refine AllReadyH.cons (o := ⟨some 214, _, _, _, _, _⟩) rfl (fun K hK => ?_) AllReadyH.nil
                  go_simp
                  rw [HT0.out]
                  have HS1 := Lib.hid (same_true HT0.out (by have := LL1.out; unfold Lt at this; rw [HT0.out] at this; exact this) (HXR.out _ HBv1.out) (by omega))
                  unfold boolTo at HS1
                  refine HS1.out.mono ?_
                  rintro r v2 ⟨rfl, hb⟩
                  have HBv2 := Lib.hid (HBv1.out.below hb)
                  have BLv2 := Lib.hid (BLv1.out.trans (hb.mono hzv1))
                  have hzv2 := HBv2.out.sz
                  clear hb HS1 LL1
                  have HL2 := Lib.hid HBv2.out.list2
                  go_simp
                  refine hK.out _ _ (trivial) (fun hHeld => ?_)
                  clear hK K
                  try simp only [Act.put, List.setIfInBounds_toArray, List.set_cons_zero, List.set_cons_succ]
                  refine wpAnyH_take (i := 7) (oi := ⟨some 215, _, _, _, _, _⟩) (v := ?_) rfl (by kernel_rfl) (by kernel_rfl) (by kernel_rfl) (fun _ _ _ h => h) (Or.inl ⟨by rfl, ?_⟩) (by assumption) ?_
                  rotate_left
                  · intro w hSw; go_simp; first | done | with_reducible rfl
                  try simp only [Act.put, List.setIfInBounds_toArray, List.set_cons_zero, List.set_cons_succ]
                  refine wpAnyH_take (i := 8) (oi := ⟨some 216, _, _, _, _, _⟩) (v := ?_) rfl (by kernel_rfl) (by kernel_rfl) (by kernel_rfl) (fun _ _ _ h => h) (Or.inl ⟨by rfl, ?_⟩) (by assumption) ?_
                  rotate_left
                  · intro w hSw; go_simp; first | done | with_reducible rfl
                  try simp only [Act.put, List.setIfInBounds_toArray, List.set_cons_zero, List.set_cons_succ]
                  refine wpAnyH_take (i := 9) (oi := ⟨some 217, _, _, _, _, _⟩) (v := ?_) rfl (by kernel_rfl) (by kernel_rfl) (by kernel_rfl) (fun _ _ _ h => h) (Or.inl ⟨by rfl, ?_⟩) (by assumption) ?_
                  rotate_left
                  · intro w hSw; go_simp; first | done | with_reducible rfl
                  try simp only [Act.put, List.setIfInBounds_toArray, List.set_cons_zero, List.set_cons_succ]
                  refine wpAnyH_take (i := 11) (oi := ⟨some 219, _, _, _, _, _⟩) (v := ?_) rfl (by kernel_rfl) (by kernel_rfl) (by kernel_rfl) (fun _ _ _ h => h) (Or.inl ⟨by rfl, ?_⟩) (by assumption) ?_
                  rotate_left
                  · intro w hSw; go_simp; first | done | with_reducible rfl
                  try simp only [Act.put, List.setIfInBounds_toArray, List.set_cons_zero, List.set_cons_succ]
                  refine wpAnyH_take (i := 12) (oi := ⟨some 220, _, _, _, _, _⟩) (v := ?_) rfl (by kernel_rfl) (by kernel_rfl) (by kernel_rfl) (fun _ _ _ h => h) (Or.inl ⟨by rfl, ?_⟩) (by assumption) ?_
                  rotate_left
                  · intro w hSw; go_simp; first | done | with_reducible rfl
                  try simp only [Act.put, List.setIfInBounds_toArray, List.set_cons_zero, List.set_cons_succ]
                  refine wpAnyH_take (i := 13) (oi := ⟨some 221, _, _, _, _, _⟩) (v := ?_) rfl (by kernel_rfl) (by kernel_rfl) (by kernel_rfl) (fun _ _ _ h => h) (Or.inl ⟨by rfl, ?_⟩) (by assumption) ?_
                  rotate_left
                  · intro w hSw; go_simp; first | done | with_reducible rfl
                  try simp only [Act.put, List.setIfInBounds_toArray, List.set_cons_zero, List.set_cons_succ]
                  refine wpAnyH_take (i := 14) (oi := ⟨some 222, _, _, _, _, _⟩) (v := ?_) rfl (by kernel_rfl) (by kernel_rfl) (by kernel_rfl) (fun _ _ _ h => h) (Or.inl ⟨by rfl, ?_⟩) (by assumption) ?_
                  rotate_left
                  · intro w hSw; go_simp; first | done | with_reducible rfl
                  try simp only [Act.put, List.setIfInBounds_toArray, List.set_cons_zero, List.set_cons_succ]
                  refine wpAnyH_ready (rs := [10]) (by kernel_rfl) (by simp) ?_
                  refine AllReadyH.cons (o := ⟨some 218, _, _, _, _, _⟩) rfl (fun K hK => ?_) AllReadyH.nil
                  go_simp
                  refine HL2.out.mono ?_
                  rintro r v3 ⟨R2, d2, rfl, hl, hb⟩
                  have LL2 := Lib.hid hl
                  have HBv3 := Lib.hid (HBv2.out.below hb)
                  have BLv3 := Lib.hid (BLv2.out.trans (hb.mono hzv2))
                  have hzv3 := HBv3.out.sz
                  clear hb hl HL2
                  go_simp
                  refine hK.out _ _ (trivial) (fun hHeld => ?_)
                  clear hK K
                  try simp only [Act.put, List.setIfInBounds_toArray, List.set_cons_zero, List.set_cons_succ]
                  refine wpAnyH_ready (rs := [15]) (by kernel_rfl) (by simp) ?_
                  refine AllReadyH.cons (o := ⟨some 223, _, _, _, _, _⟩) rfl (fun K hK => ?_) AllReadyH.nil
                  go_simp
                  rw [HT0.out]
                  have HS2 := Lib.hid (same_true HT0.out (by have := LL2.out; unfold Lt at this; rw [HT0.out] at this; exact this) (HXR.out _ HBv3.out) (by omega))
                  unfold boolTo at HS2
                  refine HS2.out.mono ?_
                  rintro r v4 ⟨rfl, hb⟩
                  have HBv4 := Lib.hid (HBv3.out.below hb)
                  have BLv4 := Lib.hid (BLv3.out.trans (hb.mono hzv3))
                  have hzv4 := HBv4.out.sz
                  clear hb HS2 LL2
                  go_simp
                  refine hK.out _ _ (trivial) (fun hHeld => ?_)
                  clear hK K
                  try simp only [Act.put, List.setIfInBounds_toArray, List.set_cons_zero, List.set_cons_succ]
                  refine wpAnyH_take (i := 16) (oi := ⟨some 224, _, _, _, _, _⟩) (v := ?_) rfl (by kernel_rfl) (by kernel_rfl) (by kernel_rfl) (fun _ _ _ h => h) (Or.inl ⟨by rfl, ?_⟩) (by assumption) ?_
                  rotate_left
                  · intro w hSw; go_simp; first | done | with_reducible rfl
                  try simp only [Act.put, List.setIfInBounds_toArray, List.set_cons_zero, List.set_cons_succ]
                  refine wpAnyH_take (i := 17) (oi := ⟨some 225, _, _, _, _, _⟩) (v := ?_) rfl (by kernel_rfl) (by kernel_rfl) (by kernel_rfl) (fun _ _ _ h => h) (Or.inl ⟨by rfl, ?_⟩) (by assumption) ?_
                  rotate_left
                  · intro w hSw; go_simp; first | done | with_reducible rfl
                  try simp only [Act.put, List.setIfInBounds_toArray, List.set_cons_zero, List.set_cons_succ]
                  refine wpAnyH_done (by kernel_rfl) ?_ _
                  refine NoPanic.normal ?_
                  go_wp2_with fail
                  repeat (rename ¬ L.length < k3 => h9; clear h9)
                  clear hle hkc hk30 hk3l
                  go_loopw [231] (fun i wx => i = .int .i64 0 ∧ Below v4.heap.size v4 wx) (fun _ _ => 0)
                  case atStart => exact ⟨rfl, Below.refl _ _⟩
                  case round =>
                    obtain ⟨rfl, hbl⟩ := hrel
                    have BQ := Lib.hid (BLv4.out.trans (hbl.mono hzv4))
                    have BQN : N ≤ wr.heap.size := by have := hbl.size; omega
                    clear hbl
                    go_wp2_with fail
                    refine (known_any wr).mono ?_
                    rintro e w11 ⟨rfl, hb⟩
                    have HB := Lib.hid (BQ.out.trans (hb.mono BQN))
                    clear hb
                    go_wp2_with fail
                    go_ret
                    exact ⟨rfl, HB.out⟩
                | some q =>
                  have hq0 : q.add 0 = q := by unfold Addr.add; simp
                  have hq1 : q.add (0 * 2) = q := hq0
                  have HXR : Hid (∀ u : World, B3 N u g g2 TT TT [(A3, Cc, c3), (A2, Bb, c2), (A1, Aa, c1), (some q, L, k3)] → Rs u 2 (some q) 0 0 (tv TT)) := fun u h => by
                    have := HLR.out u h
                    rw [show cutM (some q) 2 k3 k3 = some q from if_pos rfl, HTL.out, HT0.out, Nat.sub_self] at this
                    exact this
                  clear HLR
                  refine wp_region_noPanic ?_
                  refine wp_region_held_drew (S := fun _ => True) (by kernel_rfl) (trivial) (fun hHeld => ?_)
                  refine wpAnyH_take (i := 0) (oi := ⟨some 208, _, _, _, _, _⟩) (v := ?_) rfl (by kernel_rfl) (by kernel_rfl) (by kernel_rfl) (fun _ _ _ h => h) (Or.inl ⟨by rfl, ?_⟩) (by assumption) ?_
                  rotate_left
                  · intro w hSw; go_simp; first | done | with_reducible rfl
                  try simp only [Act.put, List.setIfInBounds_toArray, List.set_cons_zero, List.set_cons_succ]
                  refine wpAnyH_take (i := 2) (oi := ⟨some 210, _, _, _, _, _⟩) (v := ?_) rfl (by kernel_rfl) (by kernel_rfl) (by kernel_rfl) (fun _ _ _ h => h) (Or.inl ⟨by rfl, ?_⟩) (by assumption) ?_
                  rotate_left
                  · intro w hSw; go_simp; first | done | with_reducible rfl
                  try simp only [Act.put, List.setIfInBounds_toArray, List.set_cons_zero, List.set_cons_succ]
                  refine wpAnyH_take (i := 3) (oi := ⟨some 211, _, _, _, _, _⟩) (v := ?_) rfl (by kernel_rfl) (by kernel_rfl) (by kernel_rfl) (fun _ _ _ h => h) (Or.inl ⟨by rfl, ?_⟩) (by assumption) ?_
                  rotate_left
                  · intro w hSw; go_simp; first | done | with_reducible rfl
                  try simp only [Act.put, List.setIfInBounds_toArray, List.set_cons_zero, List.set_cons_succ]
                  refine wpAnyH_take (i := 4) (oi := ⟨some 212, _, _, _, _, _⟩) (v := ?_) rfl (by kernel_rfl) (by kernel_rfl) (by kernel_rfl) (fun _ _ _ h => h) (Or.inl ⟨by rfl, ?_⟩) (by assumption) ?_
                  rotate_left
                  · intro w hSw; go_simp; first | done | with_reducible rfl
                  try simp only [Act.put, List.setIfInBounds_toArray, List.set_cons_zero, List.set_cons_succ]
                  refine wpAnyH_take (i := 5) (oi := ⟨some 213, _, _, _, _, _⟩) (v := ?_) rfl (by kernel_rfl) (by kernel_rfl) (by kernel_rfl) (fun _ _ _ h => h) (Or.inl ⟨by rfl, ?_⟩) (by assumption) ?_
                  rotate_left
                  · intro w hSw; go_simp; first | done | with_reducible rfl
                  try simp only [Act.put, List.setIfInBounds_toArray, List.set_cons_zero, List.set_cons_succ]
                  refine wpAnyH_ready (rs := [1]) (by kernel_rfl) (by simp) ?_
                  refine AllReadyH.cons (o := ⟨some 209, _, _, _, _, _⟩) rfl (fun K hK => ?_) AllReadyH.nil
                  go_simp
                  refine HL1.out.mono ?_
                  rintro r v1 ⟨R1, d1, rfl, hl, hb⟩
                  have LL1 := Lib.hid hl
                  have HBv1 := Lib.hid (HB12.out.below hb)
                  have BLv1 := Lib.hid (BL12.out.trans (hb.mono hz12))
                  have hzv1 := HBv1.out.sz
                  clear hb hl HL1
                  go_simp
                  refine hK.out _ _ (trivial) (fun hHeld => ?_)
                  clear hK K
                  try simp only [Act.put, List.setIfInBounds_toArray, List.set_cons_zero, List.set_cons_succ]
                  refine wpAnyH_ready (rs := [6]) (by kernel_rfl) (by simp) ?_
                  refine AllReadyH.cons (o := ⟨some 214, _, _, _, _, _⟩) rfl (fun K hK => ?_) AllReadyH.nil
                  go_simp
                  rw [HT0.out]
                  have HS1 := Lib.hid (same_true HT0.out (by have := LL1.out; unfold Lt at this; rw [HT0.out] at this; exact this) (HXR.out _ HBv1.out) (by omega))
                  unfold boolTo at HS1
                  refine HS1.out.mono ?_
                  rintro r v2 ⟨rfl, hb⟩
                  have HBv2 := Lib.hid (HBv1.out.below hb)
                  have BLv2 := Lib.hid (BLv1.out.trans (hb.mono hzv1))
                  have hzv2 := HBv2.out.sz
                  clear hb HS1 LL1
                  have HL2 := Lib.hid HBv2.out.list2
                  go_simp
                  refine hK.out _ _ (trivial) (fun hHeld => ?_)
                  clear hK K
                  try simp only [Act.put, List.setIfInBounds_toArray, List.set_cons_zero, List.set_cons_succ]
                  refine wpAnyH_take (i := 7) (oi := ⟨some 215, _, _, _, _, _⟩) (v := ?_) rfl (by kernel_rfl) (by kernel_rfl) (by kernel_rfl) (fun _ _ _ h => h) (Or.inl ⟨by rfl, ?_⟩) (by assumption) ?_
                  rotate_left
                  · intro w hSw; go_simp; first | done | with_reducible rfl
                  try simp only [Act.put, List.setIfInBounds_toArray, List.set_cons_zero, List.set_cons_succ]
                  refine wpAnyH_take (i := 8) (oi := ⟨some 216, _, _, _, _, _⟩) (v := ?_) rfl (by kernel_rfl) (by kernel_rfl) (by kernel_rfl) (fun _ _ _ h => h) (Or.inl ⟨by rfl, ?_⟩) (by assumption) ?_
                  rotate_left
                  · intro w hSw; go_simp; first | done | with_reducible rfl
                  try simp only [Act.put, List.setIfInBounds_toArray, List.set_cons_zero, List.set_cons_succ]
                  refine wpAnyH_take (i := 9) (oi := ⟨some 217, _, _, _, _, _⟩) (v := ?_) rfl (by kernel_rfl) (by kernel_rfl) (by kernel_rfl) (fun _ _ _ h => h) (Or.inl ⟨by rfl, ?_⟩) (by assumption) ?_
                  rotate_left
                  · intro w hSw; go_simp; first | done | with_reducible rfl
                  try simp only [Act.put, List.setIfInBounds_toArray, List.set_cons_zero, List.set_cons_succ]
                  refine wpAnyH_take (i := 11) (oi := ⟨some 219, _, _, _, _, _⟩) (v := ?_) rfl (by kernel_rfl) (by kernel_rfl) (by kernel_rfl) (fun _ _ _ h => h) (Or.inl ⟨by rfl, ?_⟩) (by assumption) ?_
                  rotate_left
                  · intro w hSw; go_simp; first | done | with_reducible rfl
                  try simp only [Act.put, List.setIfInBounds_toArray, List.set_cons_zero, List.set_cons_succ]
                  refine wpAnyH_take (i := 12) (oi := ⟨some 220, _, _, _, _, _⟩) (v := ?_) rfl (by kernel_rfl) (by kernel_rfl) (by kernel_rfl) (fun _ _ _ h => h) (Or.inl ⟨by rfl, ?_⟩) (by assumption) ?_
                  rotate_left
                  · intro w hSw; go_simp; first | done | with_reducible rfl
                  try simp only [Act.put, List.setIfInBounds_toArray, List.set_cons_zero, List.set_cons_succ]
                  refine wpAnyH_take (i := 13) (oi := ⟨some 221, _, _, _, _, _⟩) (v := ?_) rfl (by kernel_rfl) (by kernel_rfl) (by kernel_rfl) (fun _ _ _ h => h) (Or.inl ⟨by rfl, ?_⟩) (by assumption) ?_
                  rotate_left
                  · intro w hSw; go_simp; first | done | with_reducible rfl
                  try simp only [Act.put, List.setIfInBounds_toArray, List.set_cons_zero, List.set_cons_succ]
                  refine wpAnyH_take (i := 14) (oi := ⟨some 222, _, _, _, _, _⟩) (v := ?_) rfl (by kernel_rfl) (by kernel_rfl) (by kernel_rfl) (fun _ _ _ h => h) (Or.inl ⟨by rfl, ?_⟩) (by assumption) ?_
                  rotate_left
                  · intro w hSw; go_simp; first | done | with_reducible rfl
                  try simp only [Act.put, List.setIfInBounds_toArray, List.set_cons_zero, List.set_cons_succ]
                  refine wpAnyH_ready (rs := [10]) (by kernel_rfl) (by simp) ?_
                  refine AllReadyH.cons (o := ⟨some 218, _, _, _, _, _⟩) rfl (fun K hK => ?_) AllReadyH.nil
                  go_simp
                  refine HL2.out.mono ?_
                  rintro r v3 ⟨R2, d2, rfl, hl, hb⟩
                  have LL2 := Lib.hid hl
                  have HBv3 := Lib.hid (HBv2.out.below hb)
                  have BLv3 := Lib.hid (BLv2.out.trans (hb.mono hzv2))
                  have hzv3 := HBv3.out.sz
                  clear hb hl HL2
                  go_simp
                  refine hK.out _ _ (trivial) (fun hHeld => ?_)
                  clear hK K
                  try simp only [Act.put, List.setIfInBounds_toArray, List.set_cons_zero, List.set_cons_succ]
                  refine wpAnyH_ready (rs := [15]) (by kernel_rfl) (by simp) ?_
                  refine AllReadyH.cons (o := ⟨some 223, _, _, _, _, _⟩) rfl (fun K hK => ?_) AllReadyH.nil
                  go_simp
                  rw [HT0.out]
                  have HS2 := Lib.hid (same_true HT0.out (by have := LL2.out; unfold Lt at this; rw [HT0.out] at this; exact this) (HXR.out _ HBv3.out) (by omega))
                  unfold boolTo at HS2
                  refine HS2.out.mono ?_
                  rintro r v4 ⟨rfl, hb⟩
                  have HBv4 := Lib.hid (HBv3.out.below hb)
                  have BLv4 := Lib.hid (BLv3.out.trans (hb.mono hzv3))
                  have hzv4 := HBv4.out.sz
                  clear hb HS2 LL2
                  go_simp
                  refine hK.out _ _ (trivial) (fun hHeld => ?_)
                  clear hK K
                  try simp only [Act.put, List.setIfInBounds_toArray, List.set_cons_zero, List.set_cons_succ]
                  refine wpAnyH_take (i := 16) (oi := ⟨some 224, _, _, _, _, _⟩) (v := ?_) rfl (by kernel_rfl) (by kernel_rfl) (by kernel_rfl) (fun _ _ _ h => h) (Or.inl ⟨by rfl, ?_⟩) (by assumption) ?_
                  rotate_left
                  · intro w hSw; go_simp; first | done | with_reducible rfl
                  try simp only [Act.put, List.setIfInBounds_toArray, List.set_cons_zero, List.set_cons_succ]
                  refine wpAnyH_take (i := 17) (oi := ⟨some 225, _, _, _, _, _⟩) (v := ?_) rfl (by kernel_rfl) (by kernel_rfl) (by kernel_rfl) (fun _ _ _ h => h) (Or.inl ⟨by rfl, ?_⟩) (by assumption) ?_
                  rotate_left
                  · intro w hSw; go_simp; first | done | with_reducible rfl
                  try simp only [Act.put, List.setIfInBounds_toArray, List.set_cons_zero, List.set_cons_succ]
                  refine wpAnyH_done (by kernel_rfl) ?_ _
                  refine NoPanic.normal ?_
                  go_wp2_with fail
                  repeat (rename ¬ L.length < k3 => h9; clear h9)
                  clear hle hkc hk30 hk3l
                  go_loopw [231] (fun i wx => i = .int .i64 0 ∧ Below v4.heap.size v4 wx) (fun _ _ => 0)
                  case atStart => exact ⟨rfl, Below.refl _ _⟩
                  case round =>
                    obtain ⟨rfl, hbl⟩ := hrel
                    have BQ := Lib.hid (BLv4.out.trans (hbl.mono hzv4))
                    have BQN : N ≤ wr.heap.size := by have := hbl.size; omega
                    clear hbl
                    go_wp2_with fail
                    refine (known_any wr).mono ?_
                    rintro e w11 ⟨rfl, hb⟩
                    have HB := Lib.hid (BQ.out.trans (hb.mono BQN))
                    clear hb
                    go_wp2_with fail
                    go_ret
                    exact ⟨rfl, HB.out⟩
              · cases A with
                | none => exact absurd (by have := Rs.non (HB12.out.li (A := none) (L := L) (c := c) (by simp)) rfl; omega) hcK
                | some q =>
                  have hq0 : q.add 0 = q := by unfold Addr.add; simp
                  have hq1 : q.add (0 * 2) = q := hq0
                  have HXR : Hid (∀ u : World, B3 N u g g2 TT TT [(A3, Cc, c3), (A2, Bb, c2), (A1, Aa, c1), (some q, L, c)] → Rs u 2 (some (q.add (k3 * 2))) TT.length (c - k3) (tv TT)) := fun u h => by
                    have := HLR.out u h
                    rw [show cutM (some q) 2 k3 c = some (q.add (k3 * 2)) from if_neg hcK, HTL.out] at this
                    exact this
                  clear HLR
                  refine wp_region_noPanic ?_
                  refine wp_region_held_drew (S := fun _ => True) (by kernel_rfl) (trivial) (fun hHeld => ?_)
                  refine wpAnyH_take (i := 0) (oi := ⟨some 208, _, _, _, _, _⟩) (v := ?_) rfl (by kernel_rfl) (by kernel_rfl) (by kernel_rfl) (fun _ _ _ h => h) (Or.inl ⟨by rfl, ?_⟩) (by assumption) ?_
                  rotate_left
                  · intro w hSw; go_simp; first | done | with_reducible rfl
                  try simp only [Act.put, List.setIfInBounds_toArray, List.set_cons_zero, List.set_cons_succ]
                  refine wpAnyH_take (i := 2) (oi := ⟨some 210, _, _, _, _, _⟩) (v := ?_) rfl (by kernel_rfl) (by kernel_rfl) (by kernel_rfl) (fun _ _ _ h => h) (Or.inl ⟨by rfl, ?_⟩) (by assumption) ?_
                  rotate_left
                  · intro w hSw; go_simp; first | done | with_reducible rfl
                  try simp only [Act.put, List.setIfInBounds_toArray, List.set_cons_zero, List.set_cons_succ]
                  refine wpAnyH_take (i := 3) (oi := ⟨some 211, _, _, _, _, _⟩) (v := ?_) rfl (by kernel_rfl) (by kernel_rfl) (by kernel_rfl) (fun _ _ _ h => h) (Or.inl ⟨by rfl, ?_⟩) (by assumption) ?_
                  rotate_left
                  · intro w hSw; go_simp; first | done | with_reducible rfl
                  try simp only [Act.put, List.setIfInBounds_toArray, List.set_cons_zero, List.set_cons_succ]
                  refine wpAnyH_take (i := 4) (oi := ⟨some 212, _, _, _, _, _⟩) (v := ?_) rfl (by kernel_rfl) (by kernel_rfl) (by kernel_rfl) (fun _ _ _ h => h) (Or.inl ⟨by rfl, ?_⟩) (by assumption) ?_
                  rotate_left
                  · intro w hSw; go_simp; first | done | with_reducible rfl
                  try simp only [Act.put, List.setIfInBounds_toArray, List.set_cons_zero, List.set_cons_succ]
                  refine wpAnyH_take (i := 5) (oi := ⟨some 213, _, _, _, _, _⟩) (v := ?_) rfl (by kernel_rfl) (by kernel_rfl) (by kernel_rfl) (fun _ _ _ h => h) (Or.inl ⟨by rfl, ?_⟩) (by assumption) ?_
                  rotate_left
                  · intro w hSw; go_simp; first | done | with_reducible rfl
                  try simp only [Act.put, List.setIfInBounds_toArray, List.set_cons_zero, List.set_cons_succ]
                  refine wpAnyH_ready (rs := [1]) (by kernel_rfl) (by simp) ?_
                  refine AllReadyH.cons (o := ⟨some 209, _, _, _, _, _⟩) rfl (fun K hK => ?_) AllReadyH.nil
                  go_simp
                  refine HL1.out.mono ?_
                  rintro r v1 ⟨R1, d1, rfl, hl, hb⟩
                  have LL1 := Lib.hid hl
                  have HBv1 := Lib.hid (HB12.out.below hb)
                  have BLv1 := Lib.hid (BL12.out.trans (hb.mono hz12))
                  have hzv1 := HBv1.out.sz
                  clear hb hl HL1
                  go_simp
                  refine hK.out _ _ (trivial) (fun hHeld => ?_)
                  clear hK K
                  try simp only [Act.put, List.setIfInBounds_toArray, List.set_cons_zero, List.set_cons_succ]
                  refine wpAnyH_ready (rs := [6]) (by kernel_rfl) (by simp) ?_
                  refine AllReadyH.cons (o := ⟨some 214, _, _, _, _, _⟩) rfl (fun K hK => ?_) AllReadyH.nil
                  go_simp
                  try rw [HTL.out]
                  have HS1 := Lib.hid (same_true rfl LL1.out (HXR.out _ HBv1.out) (by omega))
                  unfold boolTo at HS1
                  refine HS1.out.mono ?_
                  rintro r v2 ⟨rfl, hb⟩
                  have HBv2 := Lib.hid (HBv1.out.below hb)
                  have BLv2 := Lib.hid (BLv1.out.trans (hb.mono hzv1))
                  have hzv2 := HBv2.out.sz
                  clear hb HS1 LL1
                  have HL2 := Lib.hid HBv2.out.list2
                  go_simp
                  refine hK.out _ _ (trivial) (fun hHeld => ?_)
                  clear hK K
                  try simp only [Act.put, List.setIfInBounds_toArray, List.set_cons_zero, List.set_cons_succ]
                  refine wpAnyH_take (i := 7) (oi := ⟨some 215, _, _, _, _, _⟩) (v := ?_) rfl (by kernel_rfl) (by kernel_rfl) (by kernel_rfl) (fun _ _ _ h => h) (Or.inl ⟨by rfl, ?_⟩) (by assumption) ?_
                  rotate_left
                  · intro w hSw; go_simp; first | done | with_reducible rfl
                  try simp only [Act.put, List.setIfInBounds_toArray, List.set_cons_zero, List.set_cons_succ]
                  refine wpAnyH_take (i := 8) (oi := ⟨some 216, _, _, _, _, _⟩) (v := ?_) rfl (by kernel_rfl) (by kernel_rfl) (by kernel_rfl) (fun _ _ _ h => h) (Or.inl ⟨by rfl, ?_⟩) (by assumption) ?_
                  rotate_left
                  · intro w hSw; go_simp; first | done | with_reducible rfl
                  try simp only [Act.put, List.setIfInBounds_toArray, List.set_cons_zero, List.set_cons_succ]
                  refine wpAnyH_take (i := 9) (oi := ⟨some 217, _, _, _, _, _⟩) (v := ?_) rfl (by kernel_rfl) (by kernel_rfl) (by kernel_rfl) (fun _ _ _ h => h) (Or.inl ⟨by rfl, ?_⟩) (by assumption) ?_
                  rotate_left
                  · intro w hSw; go_simp; first | done | with_reducible rfl
                  try simp only [Act.put, List.setIfInBounds_toArray, List.set_cons_zero, List.set_cons_succ]
                  refine wpAnyH_take (i := 11) (oi := ⟨some 219, _, _, _, _, _⟩) (v := ?_) rfl (by kernel_rfl) (by kernel_rfl) (by kernel_rfl) (fun _ _ _ h => h) (Or.inl ⟨by rfl, ?_⟩) (by assumption) ?_
                  rotate_left
                  · intro w hSw; go_simp; first | done | with_reducible rfl
                  try simp only [Act.put, List.setIfInBounds_toArray, List.set_cons_zero, List.set_cons_succ]
                  refine wpAnyH_take (i := 12) (oi := ⟨some 220, _, _, _, _, _⟩) (v := ?_) rfl (by kernel_rfl) (by kernel_rfl) (by kernel_rfl) (fun _ _ _ h => h) (Or.inl ⟨by rfl, ?_⟩) (by assumption) ?_
                  rotate_left
                  · intro w hSw; go_simp; first | done | with_reducible rfl
                  try simp only [Act.put, List.setIfInBounds_toArray, List.set_cons_zero, List.set_cons_succ]
                  refine wpAnyH_take (i := 13) (oi := ⟨some 221, _, _, _, _, _⟩) (v := ?_) rfl (by kernel_rfl) (by kernel_rfl) (by kernel_rfl) (fun _ _ _ h => h) (Or.inl ⟨by rfl, ?_⟩) (by assumption) ?_
                  rotate_left
                  · intro w hSw; go_simp; first | done | with_reducible rfl
                  try simp only [Act.put, List.setIfInBounds_toArray, List.set_cons_zero, List.set_cons_succ]
                  refine wpAnyH_take (i := 14) (oi := ⟨some 222, _, _, _, _, _⟩) (v := ?_) rfl (by kernel_rfl) (by kernel_rfl) (by kernel_rfl) (fun _ _ _ h => h) (Or.inl ⟨by rfl, ?_⟩) (by assumption) ?_
                  rotate_left
                  · intro w hSw; go_simp; first | done | with_reducible rfl
                  try simp only [Act.put, List.setIfInBounds_toArray, List.set_cons_zero, List.set_cons_succ]
                  refine wpAnyH_ready (rs := [10]) (by kernel_rfl) (by simp) ?_
                  refine AllReadyH.cons (o := ⟨some 218, _, _, _, _, _⟩) rfl (fun K hK => ?_) AllReadyH.nil
                  go_simp
                  refine HL2.out.mono ?_
                  rintro r v3 ⟨R2, d2, rfl, hl, hb⟩
                  have LL2 := Lib.hid hl
                  have HBv3 := Lib.hid (HBv2.out.below hb)
                  have BLv3 := Lib.hid (BLv2.out.trans (hb.mono hzv2))
                  have hzv3 := HBv3.out.sz
                  clear hb hl HL2
                  go_simp
                  refine hK.out _ _ (trivial) (fun hHeld => ?_)
                  clear hK K
                  try simp only [Act.put, List.setIfInBounds_toArray, List.set_cons_zero, List.set_cons_succ]
                  refine wpAnyH_ready (rs := [15]) (by kernel_rfl) (by simp) ?_
                  refine AllReadyH.cons (o := ⟨some 223, _, _, _, _, _⟩) rfl (fun K hK => ?_) AllReadyH.nil
                  go_simp
                  try rw [HTL.out]
                  have HS2 := Lib.hid (same_true rfl LL2.out (HXR.out _ HBv3.out) (by omega))
                  unfold boolTo at HS2
                  refine HS2.out.mono ?_
                  rintro r v4 ⟨rfl, hb⟩
                  have HBv4 := Lib.hid (HBv3.out.below hb)
                  have BLv4 := Lib.hid (BLv3.out.trans (hb.mono hzv3))
                  have hzv4 := HBv4.out.sz
                  clear hb HS2 LL2
                  go_simp
                  refine hK.out _ _ (trivial) (fun hHeld => ?_)
                  clear hK K
                  try simp only [Act.put, List.setIfInBounds_toArray, List.set_cons_zero, List.set_cons_succ]
                  refine wpAnyH_take (i := 16) (oi := ⟨some 224, _, _, _, _, _⟩) (v := ?_) rfl (by kernel_rfl) (by kernel_rfl) (by kernel_rfl) (fun _ _ _ h => h) (Or.inl ⟨by rfl, ?_⟩) (by assumption) ?_
                  rotate_left
                  · intro w hSw; go_simp; first | done | with_reducible rfl
                  try simp only [Act.put, List.setIfInBounds_toArray, List.set_cons_zero, List.set_cons_succ]
                  refine wpAnyH_take (i := 17) (oi := ⟨some 225, _, _, _, _, _⟩) (v := ?_) rfl (by kernel_rfl) (by kernel_rfl) (by kernel_rfl) (fun _ _ _ h => h) (Or.inl ⟨by rfl, ?_⟩) (by assumption) ?_
                  rotate_left
                  · intro w hSw; go_simp; first | done | with_reducible rfl
                  try simp only [Act.put, List.setIfInBounds_toArray, List.set_cons_zero, List.set_cons_succ]
                  refine wpAnyH_done (by kernel_rfl) ?_ _
                  refine NoPanic.normal ?_
                  go_wp2_with fail
                  try rw [HTL.out]
                  obtain ⟨X, hX⟩ : ∃ X, X = some (q.add (k3 * 2)) := ⟨_, rfl⟩
                  rw [← hX] at HXR
                  rw [← hX]
                  clear hX
                  repeat (rename ¬ L.length < k3 => h9; clear h9)
                  clear hle hkc hk30 hk3l hq0 hq1
                  go_loopw [231] (fun i wx => ∃ k : Nat, k ≤ TT.length ∧ i = .int .i64 (k : Int) ∧ Below v4.heap.size v4 wx) (fun i _ => TT.length - (intOf i).toNat)
                  case atStart => exact ⟨0, Nat.zero_le _, rfl, Below.refl _ _⟩
                  case round =>
                    obtain ⟨k, hk, rfl, hbl⟩ := hrel
                    have BQ := Lib.hid hbl
                    have hzq := hbl.size
                    clear hbl
                    by_cases hlt : k < TT.length
                    · have j1 : (k : Int) < (TT.length : Int) := by omega
                      have LX : Lt wr X TT (c - k3) := HXR.out _ (HBv4.out.below BQ.out)
                      obtain ⟨ab, ao, rfl, ltb, a0, a1⟩ := LX.at_ hlt
                      have hda := DR.out TT[k] (List.getElem_mem hlt)
                      obtain ⟨⟨x, y⟩, hx⟩ : ∃ x, x = TT[k] := ⟨_, rfl⟩
                      rw [← hx] at a0 a1 hda
                      have HDA : Hid (y = 18446744073709551615 ∨ ¬ y ≤ lt) := by
                        by_cases h1 : y = 18446744073709551615
                        · exact Or.inl h1
                        · exact Or.inr (fun h2 => hda ⟨h1, h2⟩)
                      simp only at a0 a1
                      clear hda hx LX
                      obtain ⟨v0, hv0⟩ : ∃ v0, v0 = wr.alloc (.cells #[.int .i64 x, .int .u64 y] 41) := ⟨_, rfl⟩
                      obtain ⟨b6, hb6⟩ : ∃ b6, b6 = wr.heap.size := ⟨_, rfl⟩
                      have b0 : Below wr.heap.size wr v0 := by rw [hv0]; exact bnew _ _
                      have P6 : Hid (Blk v0 b6 #[.int .i64 x, .int .u64 y] 41) := by show Blk _ _ _ _; rw [hv0, hb6]; exact Blk.new _ _ _
                      have B0 := Lib.hid (BQ.out.trans (b0.mono hzq))
                      clear b0
                      go_upto_region 46 with (fail)
                      rw [← hv0, ← hb6]
                      clear hv0 hb6 a0 a1
                      obtain ⟨y0, y1, _⟩ := P6.out.two
                      by_cases hy1 : y ≤ lt
                      · have hy2 : (y != 18446744073709551615) = false := by
                          rcases HDA.out with h1 | h1
                          · rw [h1]; rfl
                          · exact absurd hy1 h1
                        clear HDA
                        go_wp2_with fail
                        go_roundw
                        case rel => exact ⟨k + 1, by omega, by go_num, B0.out⟩
                        case measure => simp [intOf]; omega
                      · clear HDA
                        go_wp2_with fail
                        go_roundw
                        case rel => exact ⟨k + 1, by omega, by go_num, B0.out⟩
                        case measure => simp [intOf]; omega
                    · obtain rfl : k = TT.length := by omega
                      have hnn : ¬ (TT.length : Int) < TT.length := by omega
                      clear hlt
                      have BL11 := Lib.hid (BLv4.out.trans (BQ.out.mono hzv4))
                      have hz11 : N ≤ wr.heap.size := by omega
                      clear BQ
                      go_wp2_with fail
                      refine (known_any wr).mono ?_
                      rintro e w11 ⟨rfl, hb⟩
                      have HB := Lib.hid (BL11.out.trans (hb.mono hz11))
                      clear hb
                      go_wp2_with fail
                      go_ret
                      exact ⟨rfl, HB.out⟩
end Go.Proofs.Ytpalbccoiejmoaa.Yn
