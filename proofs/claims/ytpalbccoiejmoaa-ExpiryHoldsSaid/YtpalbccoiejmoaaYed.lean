/- Proves the contract of the method Due of the program's heap of deadlines. Conditions: as each theorem names them. -/
import Derived.Test.YtpalbccoiejmoaaYec
namespace Go.Proofs.Ytpalbccoiejmoaa.Ye
open Go.RowKit Go.Maps Ap Mi Nw Ya Yb Yc Yd Zk Zm Za Zl Zs Zt

theorem wo_head {x : Td} {r : List Td} (hd : (ns (x :: r)).Nodup) : wo (x :: r) x.1 = r := by
  have := erase_wo (k := 0) hd (by simp) rfl
  simpa using this.symm
theorem take_hp {F : Nat → Prop} {w : World} {g : Nat} {x : Td} {r : List Td} (h : Hp F w g (x :: r)) :
    Calls Try.prog 42 #[.pointer (some ⟨g, 0, none⟩), .int .i64 0] w fun e w' => e = .returned (tA x) ∧ Hp F w' g r ∧ Only F w w' := by
  obtain ⟨⟨A, c, B, D, Q, f, hlo, hF, hm, hf, hh, hp⟩, hsrt⟩ := h
  have h0 : 0 < Q.length := by rw [hp.length_eq]; simp
  obtain ⟨y, r', e, hx⟩ := heap_head hh hp hsrt.pw h0
  injection e with e1 e2
  subst e1; subst e2
  have hlen : Q.length ≤ 1048576 := by rw [hp.length_eq]; exact hsrt.len
  obtain ⟨b, o, rfl, _⟩ := hlo.at_ h0
  refine (take_any hlo h0 (ns_nd hp hsrt.nd) (fun x hx => hsrt.sl x (hp.mem_iff.1 hx)) hm hf hh (by omega)).mono ?_
  rintro e w' ⟨D', Q', f', rfl, a1, a2, a3, a4, a5, a6⟩
  rw [hx] at a2 ⊢
  refine ⟨rfl, ⟨⟨_, _, B, D', Q', f', a1, hF, a5, a4, a3, ?_⟩, hsrt.sub (List.sublist_cons_self _ _)⟩, a6.mono fun j hj e => ?_⟩
  · have := a2.trans (wo_perm hp x.1)
    rw [wo_head hsrt.nd] at this
    exact this
  · rcases e with e | e | e
    · rw [e]; exact hF.1
    · rw [e]; exact hF.2.1
    · rw [e]; exact hF.2.2 _ rfl
theorem due_step {L : List Td} {now : Int} (h : Srt L) {J : Nat} (hJ : J < L.length) (hk : J ≤ dueK L now) : (isDue L[J].2 now → J + 1 ≤ dueK L now) ∧ (¬ isDue L[J].2 now → J = dueK L now) := by
  obtain ⟨d1, d2⟩ := due_take (now := now) h
  constructor
  · intro hd
    rcases Nat.lt_or_ge J (dueK L now) with h1 | h1
    · exact h1
    · refine absurd hd (d2 _ ?_)
      have e : J = dueK L now := by omega
      refine List.mem_iff_getElem.2 ⟨0, by rw [List.length_drop]; omega, ?_⟩
      rw [List.getElem_drop]
      congr 1; omega
  · intro hd
    rcases Nat.lt_or_ge J (dueK L now) with h1 | h1
    · refine absurd (d1 _ ?_) hd
      exact List.mem_iff_getElem.2 ⟨J, by rw [List.length_take]; omega, by rw [List.getElem_take]⟩
    · omega
section
variable {F : Nat → Prop} {w : World} {g : Nat} {L : List Td}
/-- The length of a slice. -/
def lenV : Value → Nat
  | .slice _ n _ => n
  | _ => 0
/-- What stands in the loop of Due. -/
structure Du (F : Nat → Prop) (w : World) (g : Nat) (L : List Td) (now : Int) (wr : World) (J : Nat) (A' : Option Addr) (c' : Nat) : Prop where
  le : J ≤ dueK L now
  hp : Hp (fun j => F j ∧ j < w.heap.size) wr g (L.drop J)
  mi : Mine w.heap.size 2 wr A' J c' (tv (L.take J))
  on : Only (fun j => F j ∧ j < w.heap.size) w wr
theorem Du.end_ {now : Int} {wr : World} {J : Nat} {A' : Option Addr} {c' : Nat} (h : Du F w g L now wr J A' c') (e : J = dueK L now) : duPost F w g (L.drop (dueK L now)) (L.take (dueK L now)) (.returned (.tuple #[.slice A' J c', .int .i64 0])) wr := by
  have hle := dueK_le L now
  have hl : (L.take (dueK L now)).length = J := by rw [List.length_take]; omega
  refine ⟨fun j => F j ∧ j < w.heap.size, A', c', by rw [hl], by rw [← e]; exact h.hp, fun j hj => Or.inl hj.1, ?_, fun a ha => ?_, h.on.mono fun _ _ hj => hj.1⟩
  · have := h.mi
    rw [e] at this
    refine Lt.mine (B := w.heap.size) ?_
    rw [hl, e]; exact this
  · obtain ⟨m1, m2, _⟩ := h.mi.base ha
    exact ⟨m1, m2, fun hh => by have := hh.2; omega⟩
set_option maxRecDepth 100000 in
set_option maxHeartbeats 1000000 in
theorem due_any (h : Hp F w g L) (now : Int) : Calls Try.prog 26 #[.pointer (some ⟨g, 0, none⟩), .int .u64 now] w (duPost F w g (L.drop (dueK L now)) (L.take (dueK L now))) := by
  have HSRT := Lib.hid h.srt
  have hlen : L.length ≤ 1048576 := h.srt.len
  have HU : Hid (Calls Try.prog 40 #[.pointer (some ⟨g, 0, none⟩)] w fun e w' => e = .returned (.bool true) ∧ w' = w) := by
    obtain ⟨A, c, B, D, Q, f, hlo, _⟩ := h.has
    exact usable_any hlo.bk
  have D0 : Hid (Du F w g L now w 0 none 0) := ⟨Nat.zero_le _, h.tight, Mine.nil _ _ _, Only.refl _ _⟩
  have HE : Hid (∀ wr J A' c', Du F w g L now wr J A' c' → J = dueK L now → duPost F w g (L.drop (dueK L now)) (L.take (dueK L now)) (.returned (.tuple #[.slice A' J c', .int .i64 0])) wr) := fun _ _ _ _ h e => h.end_ e
  obtain ⟨P, hP⟩ : ∃ P, P = duPost F w g (L.drop (dueK L now)) (L.take (dueK L now)) := ⟨_, rfl⟩
  rw [← hP] at HE ⊢
  clear h hP
  go_enter Try.func26, Try.ntmps26
  go_wp2_with fail
  refine HU.out.mono ?_
  rintro e w1 ⟨rfl, rfl⟩
  go_wp2_with fail
  go_loopw [6] (fun u wr => ∃ J A' c', u = .slice A' J c' ∧ Hid (Du F w1 g L now wr J A' c')) (fun u _ => L.length - (lenV u))
  case atStart => exact ⟨0, none, 0, rfl, D0⟩
  case round =>
    obtain ⟨J, A', c', rfl, DU⟩ := hrel
    have hle := DU.out.le
    have hlk := dueK_le L now
    obtain ⟨⟨A, c, B, D, Q, f, hlo, hF, hm, hf, hh, hp⟩, hsrt⟩ := DU.out.hp
    obtain ⟨x0, x1, _⟩ := hlo.bk.two
    have lg := hlo.bk.lt
    have hql : Q.length = L.length - J := by rw [hp.length_eq, List.length_drop]
    by_cases hJ : J < L.length
    · have h0 : 0 < Q.length := by omega
      have hd : L.drop J = L[J] :: L.drop (J + 1) := List.drop_eq_getElem_cons hJ
      have hx : Zm.A Q 0 = L[J] := by
        obtain ⟨y, r', e, hx⟩ := heap_head hh hp hsrt.pw h0
        rw [hd] at e
        injection e with e1 e2
        rw [hx, e1]
      obtain ⟨b, o, rfl, lb, c0, c1⟩ := hlo.at_ h0
      rw [show o + 0 * 2 = o from by omega, hx] at c0 c1
      have hqI : (0 : Int) < (Q.length : Int) := by omega
      have HST := Lib.hid (due_step HSRT.out hJ hle)
      have HDU : Hid (∀ W, Calls Try.prog 43 #[.int .u64 L[J].2, .int .u64 now] W fun e w' => e = .returned (.bool (decide (isDue L[J].2 now))) ∧ w' = W) := fun W => cdue_any _ _ W
      have HHP := DU.out.hp
      rw [hd] at HHP
      have HTK := Lib.hid (take_hp HHP)
      have HTV : Hid (tv (L.take J) ++ [.int .i64 L[J].1, .int .u64 L[J].2] = tv (L.take (J + 1))) := by
        show _ = _
        rw [List.take_succ_eq_append_getElem hJ, tv_append]; rfl
      obtain ⟨y, hy⟩ : ∃ y, y = L[J] := ⟨_, rfl⟩
      rw [← hy] at c0 c1 HST HDU HTK HTV
      obtain ⟨n, hn⟩ : ∃ n, n = Q.length := ⟨_, rfl⟩
      rw [← hn] at x0 hqI
      have hJL : J ≤ 1048576 := by omega
      unfold tA at HTK
      clear hlo hF hm hf hh hp hsrt hd hx hy hn hql h0 HHP
      by_cases hdu : isDue y.2 now
      · have HJ1 := Lib.hid (HST.out.1 hdu)
        rw [decide_eq_true hdu] at HDU
        clear hdu HST
        go_wp2_with (go_at_call 43; refine (HDU.out _).mono ?_; rintro e w' ⟨rfl, rfl⟩)
        refine HTK.out.mono ?_
        rintro e w2 ⟨rfl, hp2, on2⟩
        have HP2 := Lib.hid hp2
        have ON2 := Lib.hid (DU.out.on.trans (on2.mono fun _ _ h => Or.inl h))
        have M2 := Lib.hid (DU.out.mi.only on2 (fun a ha h => by have := (DU.out.mi.base ha).1; have := h.2; omega))
        have hz2 := ON2.out.size
        have LB := Lib.hid (bnew w2 (.cells #[.int .i64 y.1, .int .u64 y.2] 41))
        clear hp2 on2 HTK x0 x1 c0 c1
        go_wp2_with (at_builtin; (refine wpList_mine rfl _ _ elT _ rfl rfl (M2.out.below LB.out (Nat.le_refl _)) _ rfl 1 _ (src_lit Try.underlying26 #[.int .i64 y.1, .int .u64 y.2] 1 2 rfl (by simp [Value.oneCell'])) (by omega) (by omega) (by simp; omega) ?_); intro A5 c5 w5 m5 g5 n5; have M5 := Lib.hid m5; have O5 : Hid (Only (fun j => w1.heap.size ≤ j) w2 w5) := ((Only.of_below LB.out (Nat.le_refl _) (fun _ => False)).mono (fun _ _ h => h.elim)).trans ((only_row (F := fun j => w1.heap.size ≤ j) g5 (fun d hd => (M2.out.base hd).1)).mono (fun _ _ h => Or.inl h)); clear m5 g5 n5)
        go_roundw
        case rel =>
          refine ⟨J + 1, A5, c5, rfl, Lib.hid ⟨HJ1.out, HP2.out.only O5.out (fun j hj h => by have := hj.2; omega), ?_, ON2.out.trans (O5.out.mono fun j _ h => Or.inr h)⟩⟩
          rw [← HTV.out]; exact M5.out
        case measure => simp [lenV]; omega
      · have HJ1 := Lib.hid (HST.out.2 hdu)
        rw [decide_eq_false hdu] at HDU
        clear hdu HST
        go_wp2_with (go_at_call 43; refine (HDU.out _).mono ?_; rintro e w' ⟨rfl, rfl⟩)
        go_wp2_with fail
        exact HE.out _ _ _ _ DU.out HJ1.out
    · have hq0 : Q.length = 0 := by omega
      rw [hq0] at x0
      have HJ1 : Hid (J = dueK L now) := by show _ = _; omega
      clear hlo hF hm hf hh hp hsrt hql hq0
      go_wp2_with fail
      exact HE.out _ _ _ _ DU.out HJ1.out
end
end Go.Proofs.Ytpalbccoiejmoaa.Ye
