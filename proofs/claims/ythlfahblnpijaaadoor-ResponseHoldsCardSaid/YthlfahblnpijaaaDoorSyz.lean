/- Proves what package response's functions that read return: numbers, items, lists and parts, and Read. Condition: a bounded payload. -/
import Derived.Test.YthlfahblnpijaaaDoorSp
import Derived.Test.YthlfahblnpijaaaDoorSb
import Derived.Test.YthlfahblnpijaaaDoorVsa
import Derived.Test.YthlfahblnpijaaaDoorSg
import Derived.Test.YthlfahblnpijaaaDoorFws
import Derived.Deep.Cut
namespace Go.Proofs.YthlfahblnpijaaaDoor.Sy
open Go.RowKit Vm Qm Sm Se So Sb Sn Sp

/-- A number as an int. -/
def mkI (n : Nat) : Int := if n < 9223372036854775808 then (n : Int) else (n : Int) - 18446744073709551616
theorem mk_small {n : Nat} (h : n < 9223372036854775808) : mkI n = (n : Int) := by unfold mkI; rw [if_pos h]
theorem mk_big {n : Nat} (h : ¬ n < 9223372036854775808) (hb : n < big) : mkI n < 0 := by unfold mkI; rw [if_neg h]; unfold big at hb; omega
theorem mk_bd {n : Nat} (hb : n < big) : -9223372036854775808 ≤ mkI n ∧ mkI n ≤ 9223372036854775807 := by unfold mkI; unfold big at hb; split <;> omega
theorem mk_zero {n : Nat} (hb : n < big) (h : mkI n = 0) : n = 0 := by unfold mkI at h; unfold big at hb; split at h <;> omega
def tn (l : Bs) : Nat × Bs × Bool := match rdN l with | some p => (p.1, p.2, true) | none => (0, l, false)
theorem tn_cases {l r : Bs} {n : Nat} {b : Bool} (h : tn l = (n, r, b)) : (rdN l = some (n, r) ∧ b = true) ∨ (rdN l = none ∧ n = 0 ∧ r = l ∧ b = false) := by
  unfold tn at h
  cases h1 : rdN l with
  | none => rw [h1] at h; simp only [Prod.mk.injEq] at h; exact Or.inr ⟨rfl, h.1.symm, h.2.1.symm, h.2.2.symm⟩
  | some p => rw [h1] at h; simp only [Prod.mk.injEq] at h; obtain ⟨rfl, rfl, rfl⟩ := h; exact Or.inl ⟨rfl, rfl⟩
def rawR (l : Bs) : Option (Itm × Bs) := (rdN l).bind fun p => if p.1 = 0 then some (zeroI, p.2) else (rdN p.2).bind fun v => (rdN v.2).bind fun d => (rdS d.2).map fun s => ({ mark := mkI p.1, value := s.1, version := v.1, dead := d.1 }, s.2)
def rawIs : Nat → Bs → Option (List Itm × Bs)
  | 0, l => some ([], l)
  | n + 1, l => (rawR l).bind fun p => (rawIs n p.2).map fun q => (p.1 :: q.1, q.2)
def rawK (k : Nat) (x : Rsp) (l : Bs) : Option (Rsp × Bs) := match k with
  | 0 => (rdN l).map fun p => ({ x with version := p.1 }, p.2)
  | 1 => (rdN l).map fun p => ({ x with count := mkI p.1 }, p.2)
  | 2 => (rawR l).map fun p => ({ x with items := [p.1] }, p.2)
  | 3 => (rdN l).bind fun p => if 16 < p.1 then none else (rawIs p.1 p.2).map fun q => ({ x with items := q.1 }, q.2)
  | _ => (rdN l).bind fun p => if 64 < p.1 then none else (rdNs p.1 p.2).map fun q => ({ x with numbers := q.1 }, q.2)
def rawAll : List Nat → Rsp → Bs → Option (Rsp × Bs)
  | [], x, l => some (x, l)
  | k :: ks, x, l => (rawK k x l).bind fun q => rawAll ks q.1 q.2
def readGo (op : Int) (p : Bs) : Option Rsp := (rdN p).bind fun e => (rawAll (bodyK op (mkI e.1)) (bareR op (mkI e.1)) e.2).bind finS
theorem rawK_keep {k : Nat} {x y : Rsp} {l s : Bs} (h : rawK k x l = some (y, s)) : y.op = x.op ∧ y.err = x.err := by
  unfold rawK at h
  split at h
  · rw [Option.map_eq_some_iff] at h
    obtain ⟨p, _, h⟩ := h
    simp only [Prod.mk.injEq] at h
    rw [← h.1]; exact ⟨rfl, rfl⟩
  · rw [Option.map_eq_some_iff] at h
    obtain ⟨p, _, h⟩ := h
    simp only [Prod.mk.injEq] at h
    rw [← h.1]; exact ⟨rfl, rfl⟩
  · rw [Option.map_eq_some_iff] at h
    obtain ⟨p, _, h⟩ := h
    simp only [Prod.mk.injEq] at h
    rw [← h.1]; exact ⟨rfl, rfl⟩
  · rw [Option.bind_eq_some_iff] at h
    obtain ⟨p, _, h⟩ := h
    split at h
    · cases h
    · rw [Option.map_eq_some_iff] at h
      obtain ⟨q, _, h⟩ := h
      simp only [Prod.mk.injEq] at h
      rw [← h.1]; exact ⟨rfl, rfl⟩
  · rw [Option.bind_eq_some_iff] at h
    obtain ⟨p, _, h⟩ := h
    split at h
    · cases h
    · rw [Option.map_eq_some_iff] at h
      obtain ⟨q, _, h⟩ := h
      simp only [Prod.mk.injEq] at h
      rw [← h.1]; exact ⟨rfl, rfl⟩
theorem rawAll_keep : ∀ (ks : List Nat) {x y : Rsp} {l s : Bs}, rawAll ks x l = some (y, s) → y.op = x.op ∧ y.err = x.err
  | [], x, y, l, s, h => by
    simp only [rawAll, Option.some.injEq, Prod.mk.injEq] at h
    rw [← h.1]; exact ⟨rfl, rfl⟩
  | k :: ks, x, y, l, s, h => by
    rw [rawAll, Option.bind_eq_some_iff] at h
    obtain ⟨⟨z, r⟩, h1, h2⟩ := h
    obtain ⟨a, b⟩ := rawK_keep h1
    obtain ⟨c, d⟩ := rawAll_keep ks h2
    exact ⟨c.trans a, d.trans b⟩
theorem fin_bad {x : Rsp × Bs} (h : validS x.1 = false) : finS x = none := by unfold finS; rw [if_neg]; rintro ⟨_, e⟩; rw [h] at e; cases e
theorem bad_head {r : Rsp} (h : r.op < 0 ∨ 15 < r.op ∨ r.err < 0 ∨ 100000 < r.err ∨ (r.op = 0 ∧ r.err = 0)) : validS r = false := by
  rw [Bool.eq_false_iff]; intro e
  obtain ⟨h1, h2, h3, _⟩ := valid_has e
  omega
theorem bad_count {r : Rsp} (h : r.count < 0 ∨ 1099511627776 < r.count) : validS r = false := by
  rw [Bool.eq_false_iff]; intro e
  obtain ⟨_, _, _, _, _, _, _, h8, _⟩ := valid_has e
  omega
theorem bad_items {r : Rsp} (h : r.items.all okI = false) : validS r = false := by
  rw [Bool.eq_false_iff]; intro e
  obtain ⟨_, _, _, _, h5, _⟩ := valid_has e
  rw [List.all_eq_true.2 h5] at h; cases h
theorem raw_bad {op err : Int} {l : Bs} (h : op < 0 ∨ 15 < op ∨ err < 0 ∨ 100000 < err ∨ (op = 0 ∧ err = 0)) : (rawAll (bodyK op err) (bareR op err) l).bind finS = none := by
  cases hr : rawAll (bodyK op err) (bareR op err) l with
  | none => rfl
  | some q =>
    obtain ⟨y, s⟩ := q
    obtain ⟨h1, h2⟩ := rawAll_keep _ hr
    have e1 : y.op = op := h1
    have e2 : y.err = err := h2
    exact fin_bad (bad_head (by show _; rw [e1, e2]; exact h))
theorem rawR_rel (l : Bs) : (rawR l = none ∧ rdI l = none) ∨ ∃ y r, rawR l = some (y, r) ∧ (rdI l = some (y, r) ∨ (rdI l = none ∧ okI y = false)) := by
  unfold rawR rdI
  cases h1 : rdN l with
  | none => exact Or.inl ⟨rfl, rfl⟩
  | some p =>
    obtain ⟨n, r⟩ := p
    have hb := (rdN_has h1).2
    simp only [Option.bind_some]
    by_cases h0 : n = 0
    · rw [if_pos h0, if_neg (by omega), if_pos h0]
      exact Or.inr ⟨_, _, rfl, Or.inl rfl⟩
    · rw [if_neg h0]
      by_cases h2 : 2 < n
      · rw [if_pos h2]
        cases h3 : ((rdN r).bind fun v => (rdN v.2).bind fun d => (rdS d.2).map fun s => (({ mark := mkI n, value := s.1, version := v.1, dead := d.1 } : Itm), s.2)) with
        | none => exact Or.inl ⟨rfl, rfl⟩
        | some q =>
          obtain ⟨y, s⟩ := q
          refine Or.inr ⟨y, s, rfl, Or.inr ⟨rfl, ?_⟩⟩
          rw [Option.bind_eq_some_iff] at h3
          obtain ⟨v, _, h3⟩ := h3
          rw [Option.bind_eq_some_iff] at h3
          obtain ⟨d, _, h3⟩ := h3
          rw [Option.map_eq_some_iff] at h3
          obtain ⟨s2, _, h3⟩ := h3
          simp only [Prod.mk.injEq] at h3
          rw [← h3.1]
          unfold okI
          by_cases hs : n < 9223372036854775808
          · have := mk_small hs
            rw [Bool.eq_false_iff]; simp only [ne_eq, Bool.and_eq_true, decide_eq_true_eq]
            rintro ⟨_, _, hle, _⟩; omega
          · have := mk_big hs hb
            rw [Bool.eq_false_iff]; simp only [ne_eq, Bool.and_eq_true, decide_eq_true_eq]
            rintro ⟨_, hle, _, _⟩; omega
      · rw [if_neg h2, if_neg h0, mk_small (by omega)]
        cases h3 : ((rdN r).bind fun v => (rdN v.2).bind fun d => (rdS d.2).map fun s => (({ mark := (n : Int), value := s.1, version := v.1, dead := d.1 } : Itm), s.2)) with
        | none => exact Or.inl ⟨rfl, rfl⟩
        | some q => exact Or.inr ⟨q.1, q.2, rfl, Or.inl rfl⟩
theorem rawIs_rel : ∀ (n : Nat) (l : Bs), (rawIs n l = none ∧ rdIs n l = none) ∨ ∃ ys r, rawIs n l = some (ys, r) ∧ (rdIs n l = some (ys, r) ∨ (rdIs n l = none ∧ ys.all okI = false))
  | 0, l => Or.inr ⟨[], l, rfl, Or.inl rfl⟩
  | n + 1, l => by
    rcases rawR_rel l with ⟨a, b⟩ | ⟨y, r, a, b | ⟨b, c⟩⟩
    · exact Or.inl ⟨by rw [rawIs, a]; rfl, by rw [rdIs, b]; rfl⟩
    · rcases rawIs_rel n r with ⟨d, e⟩ | ⟨ys, s, d, e | ⟨e, f⟩⟩
      · exact Or.inl ⟨by rw [rawIs, a]; simp only [Option.bind_some]; rw [d]; rfl, by rw [rdIs, b]; simp only [Option.bind_some]; rw [e]; rfl⟩
      · exact Or.inr ⟨y :: ys, s, by rw [rawIs, a]; simp only [Option.bind_some]; rw [d]; rfl, Or.inl (by rw [rdIs, b]; simp only [Option.bind_some]; rw [e]; rfl)⟩
      · exact Or.inr ⟨y :: ys, s, by rw [rawIs, a]; simp only [Option.bind_some]; rw [d]; rfl, Or.inr ⟨by rw [rdIs, b]; simp only [Option.bind_some]; rw [e]; rfl, by rw [List.all_cons, f, Bool.and_false]⟩⟩
    · rcases rawIs_rel n r with ⟨d, e⟩ | ⟨ys, s, d, _⟩
      · exact Or.inl ⟨by rw [rawIs, a]; simp only [Option.bind_some]; rw [d]; rfl, by rw [rdIs, b]; rfl⟩
      · exact Or.inr ⟨y :: ys, s, by rw [rawIs, a]; simp only [Option.bind_some]; rw [d]; rfl, Or.inr ⟨by rw [rdIs, b]; rfl, by rw [List.all_cons, c, Bool.false_and]⟩⟩
theorem items_fin (n : Nat) (l : Bs) (x : Rsp) : ((rawIs n l).bind fun q => finS ({ x with items := q.1 }, q.2)) = ((rdIs n l).bind fun q => finS ({ x with items := q.1 }, q.2)) := by
  rcases rawIs_rel n l with ⟨a, b⟩ | ⟨ys, r, a, b | ⟨b, c⟩⟩
  · rw [a, b]
  · rw [a, b]
  · rw [a, b]; exact fin_bad (bad_items c)
theorem count_fin {n : Nat} (hb : n < big) (l : Bs) (x : Rsp) : finS ({ x with count := mkI n }, l) = if 1099511627776 < n then none else finS ({ x with count := (n : Int) }, l) := by
  by_cases h : 1099511627776 < n
  · rw [if_pos h]
    refine fin_bad (bad_count ?_)
    by_cases hs : n < 9223372036854775808
    · have := mk_small hs; show mkI n < 0 ∨ 1099511627776 < mkI n; omega
    · have := mk_big hs hb; show mkI n < 0 ∨ 1099511627776 < mkI n; omega
  · rw [if_neg h, mk_small (by omega)]
theorem read_go (c : Nat) (p : Bs) : readGo ((c : Int) - 64) p = readF c p := by
  unfold readGo readF
  cases h1 : rdN p with
  | none =>
    simp only [Option.bind_none]
    split
    · unfold readS; rw [h1]; rfl
    · rfl
  | some e =>
    obtain ⟨n, r⟩ := e
    have hb := (rdN_has h1).2
    simp only [Option.bind_some]
    by_cases hc : 64 ≤ c ∧ c ≤ 79
    rotate_left
    · rw [if_neg hc]; exact raw_bad (by omega)
    rw [if_pos hc]
    unfold readS
    rw [h1]
    simp only [Option.bind_some]
    by_cases hn : 100000 < n
    · rw [if_pos hn]
      refine raw_bad ?_
      by_cases hs : n < 9223372036854775808
      · have := mk_small hs; omega
      · have := mk_big hs hb; omega
    rw [if_neg hn, mk_small (by omega)]
    obtain ⟨op, hop⟩ : ∃ op : Int, op = (c : Int) - 64 := ⟨_, rfl⟩
    rw [← hop]
    have ho : 0 ≤ op ∧ op ≤ 15 := by omega
    clear hop hc h1
    by_cases h0 : n = 0
    rotate_left
    · rw [if_neg h0]
      have : bodyK op (n : Int) = [] := by unfold bodyK; rw [if_pos (by omega)]
      rw [this]; rfl
    subst h0
    rw [if_pos rfl]
    have hx : ∀ q : Option (Rsp × Bs), (q.bind fun x => if x.2 = [] ∧ validS x.1 = true then some x.1 else none) = q.bind finS := fun q => rfl
    rw [hx]
    have hz : ((0 : Nat) : Int) = 0 := rfl
    rw [hz]
    by_cases ho0 : op = 0
    · rw [raw_bad (by omega)]
      cases hb2 : rdBody op r with
      | none => rfl
      | some q =>
        obtain ⟨y, s⟩ := q
        obtain ⟨_, e1, e2, _⟩ := rdBody_has hb2
        exact (fin_bad (bad_head (by show _; rw [e1, e2]; omega))).symm
    have hcs : (need op = 119 ∧ bodyK op 0 = [0, 1]) ∨ (need op = 105 ∧ bodyK op 0 = [2]) ∨ (need op = 109 ∧ bodyK op 0 = [3]) ∨ (need op = 110 ∧ bodyK op 0 = [4]) ∨ (need op = 99 ∧ bodyK op 0 = [1]) := by
      have h : op = 1 ∨ op = 2 ∨ op = 3 ∨ op = 4 ∨ op = 5 ∨ op = 6 ∨ op = 7 ∨ op = 8 ∨ op = 9 ∨ op = 10 ∨ op = 11 ∨ op = 12 ∨ op = 13 ∨ op = 14 ∨ op = 15 := by omega
      rcases h with rfl | rfl | rfl | rfl | rfl | rfl | rfl | rfl | rfl | rfl | rfl | rfl | rfl | rfl | rfl <;> decide
    rcases hcs with ⟨q, hk⟩ | ⟨q, hk⟩ | ⟨q, hk⟩ | ⟨q, hk⟩ | ⟨q, hk⟩
    · rw [hk]
      simp (decide := true) only [rdBody, q, if_true, rawAll, rawK]
      cases h2 : rdN r with
      | none => rfl
      | some v =>
        simp only [Option.map_some, Option.bind_some]
        cases h3 : rdN v.2 with
        | none => rfl
        | some m =>
          simp only [Option.map_some, Option.bind_some]
          rw [count_fin (rdN_has h3).2 m.2 { bareR op 0 with version := v.1 }]
          split <;> rfl
    · rw [hk]
      simp (decide := true) only [rdBody, q, if_true, if_false, rawAll, rawK]
      have := items_fin 1 r (bareR op 0)
      cases h2 : rawR r with
      | none =>
        rw [rawIs, h2] at this
        simp only [Option.map_none, Option.bind_none] at this ⊢
        rw [this]; cases rdIs 1 r <;> rfl
      | some v =>
        rw [rawIs, h2] at this
        simp only [Option.map_some, Option.bind_some, rawIs] at this ⊢
        rw [this]; cases rdIs 1 r <;> rfl
    · rw [hk]
      simp (decide := true) only [rdBody, q, if_true, if_false, rawAll, rawK]
      cases h2 : rdN r with
      | none => rfl
      | some v =>
        simp only [Option.bind_some]
        split
        · rfl
        · have := items_fin v.1 v.2 (bareR op 0)
          cases h3 : rawIs v.1 v.2 with
          | none => rw [h3] at this; simp only [Option.map_none, Option.bind_none] at this ⊢; rw [this]; cases rdIs v.1 v.2 <;> rfl
          | some z => rw [h3] at this; simp only [Option.map_some, Option.bind_some] at this ⊢; rw [this]; cases rdIs v.1 v.2 <;> rfl
    · rw [hk]
      simp (decide := true) only [rdBody, q, if_false, rawAll, rawK]
      cases h2 : rdN r with
      | none => rfl
      | some v =>
        simp only [Option.bind_some]
        split
        · rfl
        · cases rdNs v.1 v.2 <;> rfl
    · rw [hk]
      simp (decide := true) only [rdBody, q, if_true, if_false, rawAll, rawK]
      cases h2 : rdN r with
      | none => rfl
      | some v =>
        simp only [Option.map_some, Option.bind_some]
        rw [count_fin (rdN_has h2).2 v.2 (bareR op 0)]
        split <;> rfl
end Go.Proofs.YthlfahblnpijaaaDoor.Sy
namespace Go.Proofs.YthlfahblnpijaaaDoor.Sy
open Go.RowKit Vm Ap Vw Va Vg Vc Vp Vn Vs Gc Mi Mb Qm Sm Se So Sb Sn Sp

theorem rdr_only {B : Nat} {w w' : World} {g : Nat} {l : Bs} (h : Rdr B w g l) {F : Nat → Prop} (ho : Only F w w') (hF : ∀ j, B ≤ j → j ≤ g → ¬ F j) : Rdr B w' g l := by
  have hlt := h.lt
  obtain ⟨A, c, h1, h2, h3, h4, h5, h6, h7⟩ := h
  refine ⟨A, c, by rw [ho.block g hlt (hF g h2 (Nat.le_refl _))]; exact h1, h2, h3, h4, h5, rb_only h6 ho (fun a ha => hF _ (h7 a ha).1 (Nat.le_of_lt (h7 a ha).2)), h7⟩
theorem grown_only {w w' : World} {g : Nat} (h : w.grownBy w' (some g)) : Only (fun j => j = g) w w' := Only.of_grown h (fun k e => by injection e with e; exact e.symm)
def tnPost (B : Nat) (w : World) (g : Nat) (l : Bs) : Ending → World → Prop := fun e w' =>
  ∃ n r b, e = .returned (.tuple #[.int .u64 ((n : Nat) : Int), .bool b]) ∧ Hid (tn l = (n, r, b)) ∧ Rdr B w' g r ∧ Only (fun j => j = g) w w' ∧ n < big ∧ r.length ≤ l.length
set_option maxRecDepth 100000 in
set_option maxHeartbeats 2000000 in
theorem tkN_any (B : Nat) (w : World) (g : Nat) (l : Bs) (hr : Rdr B w g l) (hl : l.length ≤ 1000000000) : Calls Tryd.prog 21 #[.pointer (some ⟨g, 0, none⟩)] w (tnPost B w g l) := by
  have HN := Lib.hid (number_any B w g l hr hl)
  unfold tookPost at HN
  obtain ⟨g1, g2, g3⟩ := get_lt l
  by_cases he : getE l = 0
  · have HT : Hid (tn l = (getN l, l.drop (getS l), true)) := by show _ = _; unfold tn rdN; rw [if_pos he]
    have HR : Hid (numR l = .tuple #[.int .u64 (getN l : Int), .int .i64 0]) := by show _ = _; unfold numR; rw [he]; rfl
    rw [HR.out] at HN
    have HLD : Hid ((l.drop (getS l)).length ≤ l.length) := by show _ ≤ _; rw [List.length_drop]; omega
    have HGB : Hid (getN l < big) := g1
    unfold big at g1
    generalize getN l = n at *
    generalize l.drop (getS l) = r at *
    clear he HR g3
    go_enter Tryd.func21, Tryd.ntmps21
    go_wp2_with fail
    with_reducible refine HN.out.mono ?_
    rintro e w' ⟨rfl, h1, h2⟩
    have H1 := Lib.hid h1; have H2 := Lib.hid (grown_only h2)
    clear h1 h2
    go_wp2_with fail
    go_ret2
    exact ⟨n, r, true, rfl, HT.out, H1.out, H2.out, HGB.out, HLD.out⟩
  · obtain ⟨e1, e2, e3⟩ := get_no l he
    have HT : Hid (tn l = (0, l, false)) := by show _ = _; unfold tn rdN; rw [if_neg he]
    have HR : Hid (numR l = .tuple #[.int .u64 0, .int .i64 (getE l : Int)]) := by show _ = _; unfold numR; rw [e2]; rfl
    rw [HR.out, e3] at HN
    have hne : ((getE l : Int) == 0) = false := by rw [beq_eq_false_iff_ne]; omega
    clear he e2 e3 HR g1 g2 g3
    generalize getE l = E at *
    go_enter Tryd.func21, Tryd.ntmps21
    go_wp2_with fail
    with_reducible refine HN.out.mono ?_
    rintro e w' ⟨rfl, h1, h2⟩
    have H1 := Lib.hid h1; have H2 := Lib.hid (grown_only h2)
    clear h1 h2
    go_wp2_with fail
    go_ret2
    exact ⟨0, l, false, rfl, HT.out, H1.out, H2.out, by unfold big; omega, Nat.le_refl _⟩
/-- What taking an item leaves. -/
def tiPost (B : Nat) (w : World) (g : Nat) (l : Bs) : Ending → World → Prop := fun e w' =>
  ∃ (y : Im) (r : Bs) (b : Bool), e = .returned (.tuple #[imV y, .bool b]) ∧ Rdr B w' g r ∧ Only (fun j => j = g) w w' ∧ (Rb w' y.A y.i.value ∧ (y.A = none → y.k = 0) ∧ ∀ a, y.A = some a → w.heap.size ≤ a.block ∧ a.block < w'.heap.size) ∧
    ((-9223372036854775808 ≤ y.i.mark ∧ y.i.mark ≤ 9223372036854775807) ∧ y.i.value.length ≤ 1000000 ∧ y.i.version < 18446744073709551616 ∧ y.i.dead < 18446744073709551616) ∧ r.length ≤ l.length ∧ Hid (rawR l = if b then some (y.i, r) else none)
theorem zero_bd : (-9223372036854775808 ≤ zeroM.i.mark ∧ zeroM.i.mark ≤ 9223372036854775807) ∧ zeroM.i.value.length ≤ 1000000 ∧ zeroM.i.version < 18446744073709551616 ∧ zeroM.i.dead < 18446744073709551616 := by
  show (-9223372036854775808 ≤ (0 : Int) ∧ (0 : Int) ≤ 9223372036854775807) ∧ 0 ≤ 1000000 ∧ 0 < 18446744073709551616 ∧ 0 < 18446744073709551616
  omega
theorem wrap_mk {n : Nat} (h : n < big) : wrap64 (n : Int) = mkI n := by unfold mkI wrap64; unfold big at h; split <;> omega
theorem nb_none {l : Bs} (h : rdN l = none) : (partV l 65536).2.2 ≠ 0 := fun e => by
  have hs : ∃ s r, rdS l = some (s, r) := ⟨_, _, by unfold rdS; rw [if_pos e]⟩
  obtain ⟨s, r, hs⟩ := hs
  have h1 := (rdS_has hs).1
  have h2 := (rdS_has hs).2
  have h3 : rdN l = some (s.length, s ++ r) := by rw [h1]; unfold encS; rw [List.append_assoc]; exact rdN_put _ _ (by unfold big; omega)
  rw [h] at h3; cases h3
theorem raw_zero {l r : Bs} (h : tn l = (0, r, true)) : rawR l = some (zeroI, r) := by
  rcases tn_cases h with ⟨h1, _⟩ | ⟨_, _, _, e⟩
  · unfold rawR; rw [h1]; simp
  · cases e
theorem raw_none {l r : Bs} {n : Nat} (h : tn l = (n, r, false)) : rawR l = none := by
  rcases tn_cases h with ⟨_, e⟩ | ⟨h1, _⟩
  · cases e
  · unfold rawR; rw [h1]; rfl
theorem raw_full {l r r1 r2 : Bs} {n v d : Nat} {b1 b2 : Bool} (h : tn l = (n, r, true)) (h0 : n ≠ 0) (h1 : tn r = (v, r1, b1)) (h2 : tn r1 = (d, r2, b2)) :
    rawR l = if (partV r2 65536).2.2 = 0 then some ({ mark := mkI n, value := (partV r2 65536).1, version := v, dead := d }, r2.drop (partV r2 65536).2.1) else none := by
  rcases tn_cases h with ⟨e1, _⟩ | ⟨_, _, _, e⟩
  rotate_left
  · cases e
  unfold rawR; rw [e1]; simp only [Option.bind_some]; rw [if_neg h0]
  rcases tn_cases h1 with ⟨e2, _⟩ | ⟨e2, _, hr, _⟩
  · rw [e2]; simp only [Option.bind_some]
    rcases tn_cases h2 with ⟨e3, _⟩ | ⟨e3, _, hr, _⟩
    · rw [e3]; simp only [Option.bind_some]
      unfold rdS
      split <;> simp_all
    · rw [e3, hr, if_neg (nb_none e3)]; rfl
  · have e4 : tn r1 = (0, r1, false) := by rw [hr]; unfold tn; rw [e2]
    rw [e4] at h2
    simp only [Prod.mk.injEq] at h2
    have hq : r2 = r := by rw [← h2.2.1, hr]
    rw [e2, hq, if_neg (nb_none e2)]; rfl
set_option maxRecDepth 100000 in
set_option maxHeartbeats 8000000 in
theorem tkI_any (B : Nat) (w : World) (g : Nat) (l : Bs) (hr : Rdr B w g l) (hl : l.length ≤ 1000000000) : Calls Tryd.prog 67 #[.pointer (some ⟨g, 0, none⟩)] w (tiPost B w g l) := by
  obtain ⟨D, hD⟩ : ∃ D, D = w.heap.size := ⟨_, rfl⟩
  obtain ⟨w0, hw0⟩ : ∃ w0, w0 = w.alloc (imO zeroM) := ⟨_, rfl⟩
  have HB : Hid (Below w.heap.size w w0) := by show Below _ _ _; rw [hw0]; exact alloc_below _ _
  have HD0 : Hid (BoxI w0 D zeroM) := by show BoxI _ _ _; rw [hw0, hD]; exact BoxI.new _ _
  have HR0 := Lib.hid (hr.below HB.out (Nat.le_refl _))
  have hgl := hr.lt
  have HDG : Hid (D ≠ g) := by show _ ≠ _; omega
  have HDW := Lib.hid hD
  have O0 : Hid (Only (fun j => j = g) w w0) := Only.of_below HB.out (Nat.le_refl _) _
  unfold imO zeroM zeroI at hw0
  simp only [List.length_nil, Int.natCast_zero] at hw0
  clear hr
  go_enter Tryd.func67, Tryd.ntmps67
  go_upto_region 1 with fail
  rw [← hw0, ← hD]
  clear hw0 hD
  go_wp2_with fail
  with_reducible refine (tkN_any B w0 g l HR0.out hl).mono ?_
  rintro e w1 ⟨n, r, b, rfl, HT, h1, o1, hnb, hle⟩
  have HR1 := Lib.hid h1
  have O1 := Lib.hid o1
  have HD1 := Lib.hid (HD0.out.only o1 HDG.out)
  clear h1 o1
  obtain ⟨d0, d1, d2, d3, dun⟩ := HD1.out
  have du0 := dun 0; have du1 := dun 1; have du2 := dun 2; have du3 := dun 3
  clear dun
  have hs1 := O1.out.size
  have HRET : Hid (∀ (W : World) (q : Bs) (c : Bool), Only (fun j => j = g) w W → Rdr B W g q → q.length ≤ l.length → Hid (rawR l = if c then some (zeroI, q) else none) → tiPost B w g l (.returned (.tuple #[.agg #[.int .i64 0, .slice none 0 0, .int .u64 0, .int .u64 0], .bool c])) W) := fun W q c h1 h2 h3 h4 =>
    ⟨zeroM, q, c, rfl, h2, h1, ⟨Rb.nil _ _, fun _ => rfl, (fun a e => by cases e)⟩, zero_bd, h3, h4⟩
  have HO1 : Hid (Only (fun j => j = g) w w1) := O0.out.trans (O1.out.mono (fun j _ e => Or.inl e))
  have HNEW : Hid (∀ (W : World) (a b c d : Value), Only (fun j => j = g) w W → Only (fun j => j = g) w ((((W.setCell ⟨D, 0, none⟩ a).setCell ⟨D, 1, none⟩ b).setCell ⟨D, 2, none⟩ c).setCell ⟨D, 3, none⟩ d)) := fun W a b c d h =>
    (((h.setCell (ad := ⟨D, 0, none⟩) (Or.inr (by rw [← HDW.out]; exact Nat.le_refl _)) a).setCell (ad := ⟨D, 1, none⟩) (Or.inr (by rw [← HDW.out]; exact Nat.le_refl _)) b).setCell (ad := ⟨D, 2, none⟩) (Or.inr (by rw [← HDW.out]; exact Nat.le_refl _)) c).setCell (ad := ⟨D, 3, none⟩) (Or.inr (by rw [← HDW.out]; exact Nat.le_refl _)) d
  have HPUT : Hid (∀ (W : World) (a b c d : Value), Only (fun j => j = D) W ((((W.setCell ⟨D, 0, none⟩ a).setCell ⟨D, 1, none⟩ b).setCell ⟨D, 2, none⟩ c).setCell ⟨D, 3, none⟩ d)) := fun W a b c d =>
    ((((Only.refl (fun j => j = D) W).put (ad := ⟨D, 0, none⟩) rfl a).put (ad := ⟨D, 1, none⟩) rfl b).put (ad := ⟨D, 2, none⟩) rfl c).put (ad := ⟨D, 3, none⟩) rfl d
  have HGD : Hid (∀ j, B ≤ j → j ≤ g → ¬ j = D) := fun j _ h e => by have := HDW.out; omega
  cases b
  · have HQ := Lib.hid (raw_none HT.out)
    go_wp2_with fail
    exact bodyPost_ret (v := .tuple #[.agg #[.int .i64 0, .slice none 0 0, .int .u64 0, .int .u64 0], .bool false]) (by simp [results, Tryd.results67, go_sem, d0, d1, d2, d3]) rfl (HRET.out _ r false (HNEW.out _ _ _ _ _ HO1.out) (rdr_only HR1.out (HPUT.out _ _ _ _ _) HGD.out) hle HQ.out)
  by_cases h0 : n = 0
  · subst h0
    have HQ := Lib.hid (raw_zero HT.out)
    go_wp2_with fail
    exact bodyPost_ret (v := .tuple #[.agg #[.int .i64 0, .slice none 0 0, .int .u64 0, .int .u64 0], .bool true]) (by simp [results, Tryd.results67, go_sem, d0, d1, d2, d3]) rfl (HRET.out _ r true (HNEW.out _ _ _ _ _ HO1.out) (rdr_only HR1.out (HPUT.out _ _ _ _ _) HGD.out) hle HQ.out)
  have hbd := mk_bd hnb
  have hnz : mkI n ≠ 0 := fun e => h0 (mk_zero hnb e)
  have hcv := wrap_mk hnb
  have hm0 : (mkI n == 0) = false := by rw [beq_eq_false_iff_ne]; exact hnz
  have HMK := Lib.hid hcv
  clear d0 d1 d2 d3 du0 du1 du2 du3
  go_wp2_with fail
  with_reducible refine (tkN_any B w1 g r HR1.out (by omega)).mono ?_
  rintro e w2 ⟨v, r1, b1, rfl, HT1, h2, o2, hvb, hle1⟩
  have HR2 := Lib.hid h2
  have O2 : Hid (Only (fun j => j = g) w w2) := HO1.out.trans (o2.mono (fun j _ e => Or.inl e))
  have HD2 := Lib.hid (HD1.out.only o2 HDG.out)
  clear h2 o2
  go_wp2_with fail
  with_reducible refine (tkN_any B w2 g r1 HR2.out (by omega)).mono ?_
  rintro e w3 ⟨dl, r2, b2, rfl, HT2, h3, o3, hdb, hle2⟩
  have HR3 := Lib.hid h3
  have O3 : Hid (Only (fun j => j = g) w w3) := O2.out.trans (o3.mono (fun j _ e => Or.inl e))
  have HD3 := Lib.hid (HD2.out.only o3 HDG.out)
  clear h3 o3
  go_wp2_with fail
  with_reducible refine (bytes_any B w3 g r2 65536 HR3.out (by omega) (by omega) (by omega)).mono ?_
  rintro e w4 ⟨pv, rfl, h4, h5, g4⟩
  have HR4 := Lib.hid h5
  have o4 := grown_only g4
  have O4 : Hid (Only (fun j => j = g) w w4) := O3.out.trans (o4.mono (fun j _ e => Or.inl e))
  have HD4 := Lib.hid (HD3.out.only o4 HDG.out)
  obtain ⟨P, pc, sp⟩ := own_shape h4
  obtain rfl := sp.val
  have SP := Lib.hid sp
  have HPB : Hid (w.heap.size ≤ w3.heap.size) := O3.out.size
  obtain ⟨ps1, ps2⟩ := part_size r2 65536
  have HRAW := Lib.hid (raw_full HT.out h0 HT1.out HT2.out)
  have hvl : Hid ((partV r2 65536).1.length ≤ 1000000) := by
    show _ ≤ _
    by_cases he : (partV r2 65536).2.2 = 0
    · have hs : rdS r2 = some ((partV r2 65536).1, r2.drop (partV r2 65536).2.1) := by unfold rdS; rw [if_pos he]
      have := (rdS_has hs).2; omega
    · rw [(part_zero he).1]; simp
  have HDRP : Hid ((r2.drop (partV r2 65536).2.1).length ≤ r2.length) := by show _ ≤ _; rw [List.length_drop]; omega
  have hEE : ((((partV r2 65536).2.2 : Nat) : Int) == 0) = decide ((partV r2 65536).2.2 = 0) := by rw [Bool.eq_iff_iff, beq_iff_eq, decide_eq_true_eq]; omega
  generalize r2.drop (partV r2 65536).2.1 = r3 at *
  generalize (partV r2 65536).1 = pb at *
  generalize (partV r2 65536).2.2 = E at *
  clear h4 h5 g4 o4 sp ps1 ps2
  obtain ⟨d0, d1, d2, d3, dun⟩ := HD4.out
  have du0 := dun 0; have du1 := dun 1; have du2 := dun 2; have du3 := dun 3
  clear dun
  have HE : Hid (∀ e, ((E : Int) == 0) = e → e = decide (E = 0)) := fun e h => h.symm.trans hEE
  obtain ⟨eb, heb⟩ : ∃ eb, eb = decide (E = 0) := ⟨_, rfl⟩
  rw [← heb] at hEE
  have HEB := Lib.hid heb
  clear heb HE
  go_wp2_with fail
  have hwc := HMK.out
  refine bodyPost_ret (v := .tuple #[.agg #[.int .i64 (mkI n), .slice P pb.length pc, .int .u64 (v : Int), .int .u64 (dl : Int)], .bool eb]) (by simp [results, Tryd.results67, go_sem, d0, d1, d2, d3, hwc]) rfl ⟨⟨⟨mkI n, pb, v, dl⟩, P, pc⟩, r3, eb, rfl, ?_, HNEW.out _ _ _ _ _ O4.out, ⟨?_, SP.out.non, fun a ha => ?_⟩, ⟨hbd, hvl.out, by unfold big at hvb; exact hvb, by unfold big at hdb; exact hdb⟩, ?_, ?_⟩
  · exact rdr_only HR4.out (HPUT.out _ _ _ _ _) HGD.out
  · exact rb_only SP.out.rd (HPUT.out _ _ _ _ _) (fun a ha e => by have h1 := (SP.out.base a ha).1; have h2 := HD3.out.lt; omega)
  · have h1 := SP.out.base a ha; have h2 := HPB.out; have h3 := (HPUT.out w4 (.int .i64 (mkI n)) (.slice P pb.length pc) (.int .u64 (v : Int)) (.int .u64 (dl : Int))).size
    exact ⟨by omega, by simp; omega⟩
  · have := HDRP.out; omega
  · show _ = _; rw [HRAW.out, HEB.out]; by_cases hE : E = 0
    · rw [if_pos hE]; simp [hE]
    · rw [if_neg hE]; simp [hE]
end Go.Proofs.YthlfahblnpijaaaDoor.Sy
namespace Go.Proofs.YthlfahblnpijaaaDoor.Sy
open Go.RowKit Vm Ap Vw Va Vg Vc Vp Vn Vs Gc Mi Mb Qm Sm Se So Sb Sn Sp

theorem rawIs_stop {m : Nat} {l : Bs} (h : rawR l = none) : rawIs (m + 1) l = none := by rw [rawIs, h]; rfl
theorem rawIs_step {m : Nat} {l r : Bs} {y : Itm} {ys : List Itm} (h : rawR l = some (y, r)) : ((rawIs (m + 1) l).map fun q => (ys ++ q.1, q.2)) = (rawIs m r).map fun q => ((ys ++ [y]) ++ q.1, q.2) := by
  rw [rawIs, h]; simp only [Option.bind_some, Option.map_map]; congr 1; funext q; simp
theorem rdNs_stop {m : Nat} {l : Bs} (h : rdN l = none) : rdNs (m + 1) l = none := by rw [rdNs, h]; rfl
theorem rdNs_step {m : Nat} {l r : Bs} {y : Nat} {ys : List Nat} (h : rdN l = some (y, r)) : ((rdNs (m + 1) l).map fun q => (ys ++ q.1, q.2)) = (rdNs m r).map fun q => ((ys ++ [y]) ++ q.1, q.2) := by
  rw [rdNs, h]; simp only [Option.bind_some, Option.map_map]; congr 1; funext q; simp
def ItB (y : Im) : Prop := (-9223372036854775808 ≤ y.i.mark ∧ y.i.mark ≤ 9223372036854775807) ∧ y.i.value.length ≤ 1000000 ∧ y.i.version < 18446744073709551616 ∧ y.i.dead < 18446744073709551616
/-- What taking a list leaves. -/
def liPost (B : Nat) (w : World) (g : Nat) (l : Bs) (most : Nat) : Ending → World → Prop := fun e w' =>
  ∃ IA ik ys r b, e = .returned (.tuple #[.slice IA (ys : List Im).length ik, .bool b]) ∧ Rdr B w' g r ∧ Only (fun j => j = g) w w' ∧ ItO w.heap.size w' IA ik ys ∧ (∀ y ∈ ys, ItB y) ∧ r.length ≤ l.length ∧ ys.length ≤ most ∧
    Hid (((rdN l).bind fun p => if most < p.1 then none else rawIs p.1 p.2) = if b then some (ys.map (·.i), r) else none)
def lnPost (B : Nat) (w : World) (g : Nat) (l : Bs) (most : Nat) : Ending → World → Prop := fun e w' =>
  ∃ NA nk ns r b, e = .returned (.tuple #[.slice NA (ns : List Nat).length nk, .bool b]) ∧ Rdr B w' g r ∧ Only (fun j => j = g) w w' ∧ NuO w.heap.size w' NA nk ns ∧ (∀ n ∈ ns, n < big) ∧ r.length ≤ l.length ∧ ns.length ≤ most ∧
    Hid (((rdN l).bind fun p => if most < p.1 then none else rdNs p.1 p.2) = if b then some (ns, r) else none)
set_option maxRecDepth 100000 in
set_option maxHeartbeats 8000000 in
theorem tkLI_any (B : Nat) (w : World) (g : Nat) (l : Bs) (most : Nat) (hr : Rdr B w g l) (hl : l.length ≤ 1000000000) (hm : most ≤ 1000) : Calls Tryd.prog 71 #[.pointer (some ⟨g, 0, none⟩), .int .i64 (most : Int), .func (.func 67) #[] #[]] w (liPost B w g l most) := by
  have HN := Lib.hid (tkN_any B w g l hr hl)
  unfold tnPost at HN
  have hgl := hr.lt
  obtain ⟨K, hK⟩ : ∃ K, K = w.heap.size := ⟨_, rfl⟩
  have HKW := Lib.hid hK
  have HGK : Hid (g < K) := by show _ < _; omega
  obtain ⟨Z, hZ⟩ : ∃ Z, Z = ((rdN l).bind fun p => if most < p.1 then none else rawIs p.1 p.2) := ⟨_, rfl⟩
  have HZZ := Lib.hid hZ
  clear hr hK hgl hZ
  have HNO : Hid (∀ (W : World) (r : Bs), Only (fun j => j = g) w W → Rdr B W g r → r.length ≤ l.length → Z = none → liPost B w g l most (.returned (.tuple #[.slice none 0 0, .bool false])) W) := fun W r h1 h2 h3 h4 =>
    ⟨none, 0, [], r, false, rfl, h2, h1, ItO.nil _ _, (fun y hy => by cases hy), h3, Nat.zero_le _, HZZ.out.symm.trans h4⟩
  go_enter Tryd.func71, Tryd.ntmps71
  go_wp2_with fail
  with_reducible refine HN.out.mono ?_
  rintro e w1 ⟨n, r0, b0, rfl, HT, h1, o1, hnb, hle⟩
  have HR1 := Lib.hid h1
  have O1 := Lib.hid o1
  have hs1 := o1.size
  clear h1 o1
  have hnb2 := hnb
  unfold big at hnb2
  cases b0
  · have HQ : Hid (rdN l = none) := by rcases tn_cases HT.out with ⟨_, e⟩ | ⟨h, _⟩; cases e; exact h
    go_wp2_with fail
    go_ret2
    exact HNO.out _ r0 O1.out HR1.out hle (by rw [HZZ.out, HQ.out]; rfl)
  have HQ : Hid (rdN l = some (n, r0)) := by rcases tn_cases HT.out with ⟨h, _⟩ | ⟨_, _, _, e⟩; exact h; cases e
  have hcv : IntKind.u64.wrap (most : Int) = (most : Int) := by rw [IntKind.wrap_u64]; omega
  by_cases hn : most < n
  · have e1 : decide ((most : Int) < n) = true := decide_eq_true (by omega)
    go_wp2_with fail
    go_ret2
    exact HNO.out _ r0 O1.out HR1.out hle (by rw [HZZ.out, HQ.out]; simp only [Option.bind_some]; rw [if_pos hn])
  have e1 : decide ((most : Int) < n) = false := decide_eq_false (by omega)
  have e2 : decide (most < n) = false := decide_eq_false hn
  have hnm : n ≤ most := by omega
  have HBR : Hid (Z = rawIs n r0) := by show _ = _; rw [HZZ.out, HQ.out]; simp only [Option.bind_some]; rw [if_neg hn]
  clear hn HQ HT HN
  go_wp2_with fail
  clear e1 e2 hcv
  go_loopw [10, 27] (fun u i wr => ∃ (k : Nat) (IA : Option Addr) (ik : Nat) (ys : List Im) (r : Bs), k ≤ n ∧ i = .int .u64 (k : Int) ∧ u = .slice IA ys.length ik ∧ ys.length = k ∧ Rdr B wr g r ∧ ItO K wr IA ik ys ∧ Only (fun j => j = g) w wr ∧ rawIs n r0 = ((rawIs (n - k) r).map fun q => ((ys.map (·.i)) ++ q.1, q.2)) ∧ (∀ y ∈ ys, ItB y) ∧ r.length ≤ l.length) (fun _ i _ => n - (intOf i).toNat)
  case atStart => exact ⟨0, none, 0, [], r0, Nat.zero_le _, rfl, rfl, rfl, HR1.out, ItO.nil _ _, O1.out, by simp, (fun y hy => by cases hy), hle⟩
  case round =>
    obtain ⟨k, IA, ik, ys, r, hk, rfl, rfl, hyl, a1, a2, a3, a4, a5, hrl⟩ := hrel
    obtain ⟨wo, rfl⟩ : ∃ wo : World, wo = wr := ⟨_, rfl⟩
    have HR := Lib.hid a1; have HI := Lib.hid a2; have HO := Lib.hid a3; have HS := Lib.hid a4; have HY := Lib.hid a5
    have hKo : K ≤ wo.heap.size := by rw [HKW.out]; exact a3.size
    clear a1 a2 a3 a4 a5
    by_cases hlt : k < n
    · have i1 : (k : Int) < n := by omega
      have hkm : n - k = (n - (k + 1)) + 1 := by omega
      rw [hkm] at HS
      have hk1 : k + 1 ≤ n := by omega
      clear hkm
      go_wp2_with fail
      with_reducible refine (tkI_any B wo g r HR.out (by omega)).mono ?_
      rintro e w2 ⟨y, r2, b2, rfl, h2, o2, hp2, hb2, hl2, HRW⟩
      have HR2 := Lib.hid h2
      have HO2 : Hid (Only (fun j => j = g) w w2) := HO.out.trans (o2.mono (fun j _ e => Or.inl e))
      have HI2 := Lib.hid (HI.out.only o2 (fun j hj _ e => by have := HGK.out; omega))
      have HP2 := Lib.hid hp2
      have hz2 := o2.size
      have HIB := Lib.hid (fun b hb => (HI.out.mi.base (a := b) hb).2.1)
      clear h2 o2 hp2
      obtain ⟨D, hD⟩ : ∃ D, D = w2.heap.size := ⟨_, rfl⟩
      obtain ⟨w3, hw3⟩ : ∃ w3, w3 = w2.alloc (imO y) := ⟨_, rfl⟩
      have b3 : Below w2.heap.size w2 w3 := by rw [hw3]; exact alloc_below _ _
      have HD3 : Hid (BoxI w3 D y) := by show BoxI _ _ _; rw [hw3, hD]; exact BoxI.new _ _
      have HR3 := Lib.hid (HR2.out.below b3 (Nat.le_refl _))
      have HO3 : Hid (Only (fun j => j = g) w w3) := HO2.out.trans (Only.of_below b3 (Nat.le_refl _) _)
      have HI3 := Lib.hid (HI2.out.below b3 (Nat.le_refl _))
      have HPAY : Hid (Rb w3 y.A y.i.value ∧ (y.A = none → y.k = 0) ∧ ∀ a, y.A = some a → K ≤ a.block ∧ a.block < w3.heap.size ∧ ∀ b, IA = some b → a.block ≠ b.block) := ⟨HP2.out.1.below b3 (Nat.le_refl _), HP2.out.2.1, fun a ha => ⟨by have := (HP2.out.2.2 a ha).1; omega, Nat.lt_of_lt_of_le (HP2.out.2.2 a ha).2 b3.size, fun b hb e => by have h1 := (HP2.out.2.2 a ha).1; have h2 := HIB.out b hb; omega⟩⟩
      have hz3 : K ≤ w3.heap.size := Nat.le_trans hKo (Nat.le_trans hz2 b3.size)
      unfold imO at hw3
      unfold imV
      cases b2
      · have HQ : Hid (rawIs n r0 = none) := by
          have h : rawR r = none := HRW.out
          show _ = _; rw [HS.out, rawIs_stop h]; rfl
        go_upto_region 8 with fail
        rw [← hw3, ← hD]
        clear hw3 hD b3
        go_wp2_with fail
        go_ret2
        exact HNO.out _ r2 HO3.out HR3.out (by omega) (HBR.out.trans HQ.out)
      have HST : Hid (rawIs n r0 = ((rawIs (n - (k + 1)) r2).map fun q => ((ys.map (·.i) ++ [y.i]) ++ q.1, q.2))) := by
        have h : rawR r = some (y.i, r2) := HRW.out
        show _ = _; rw [HS.out, rawIs_step h]
      go_upto_region 8 with fail
      rw [← hw3, ← hD]
      clear hw3 hD b3
      obtain ⟨d0, d1, d2, d3, _⟩ := HD3.out
      go_wp2_with (at_builtin; (refine wpList_item rfl _ _ rfl hyl rfl HI3.out y rfl rfl HPAY.out (by omega) hz3 rfl ?_))
      intro IA4 ik4 w4 ys4 HYS h4 b4 _
      have HI4 := Lib.hid h4
      have HR4 := Lib.hid (HR3.out.low b4 HGK.out)
      have HO4 : Hid (Only (fun j => j = g) w w4) := HO3.out.trans (by
        refine ⟨b4.os, b4.tape, b4.output, b4.size, fun j hj hn => b4.block j ?_⟩
        have := HKW.out
        rcases Nat.lt_or_ge j K with h | h
        · exact h
        · exact absurd (Or.inr (by omega)) hn)
      have HYL : Hid (ys4.length = k + 1) := by show _ = _; rw [HYS.out, List.length_append, hyl]; rfl
      have HYB : Hid (∀ q ∈ ys4, ItB q) := fun q hq => by
        rw [HYS.out] at hq
        rcases List.mem_append.1 hq with hq | hq
        · exact HY.out q hq
        · rw [List.mem_singleton.1 hq]; exact hb2
      clear h4 b4 d0 d1 d2 d3
      go_wp2_with fail
      go_roundw
      case rel => exact ⟨k + 1, IA4, ik4, ys4, r2, hk1, by go_num, rfl, HYL.out, HR4.out, HI4.out, HO4.out, by rw [HST.out, HYS.out, List.map_append]; rfl, HYB.out, by omega⟩
      case measure => simp [intOf]; omega
    · obtain rfl : n = k := by omega
      have hnn : ¬ ((n : Nat) : Int) < n := by omega
      have HF : Hid (rawIs n r0 = some (ys.map (·.i), r)) := by show _ = _; rw [HS.out, Nat.sub_self]; simp [rawIs]
      have HFIN : Hid (liPost B w g l most (.returned (.tuple #[.slice IA ys.length ik, .bool true])) wo) := by
        have h := HI.out
        rw [HKW.out] at h
        exact ⟨IA, ik, ys, r, true, rfl, HR.out, HO.out, h, HY.out, hrl, by omega, HZZ.out.symm.trans (HBR.out.trans HF.out)⟩
      clear hyl
      go_wp2_with fail
      exact bodyPost_ret (v := .tuple #[.slice IA ys.length ik, .bool true]) (by simp [results, Tryd.results71, go_sem]) rfl HFIN.out
set_option maxRecDepth 100000 in
set_option maxHeartbeats 8000000 in
theorem tkLN_any (B : Nat) (w : World) (g : Nat) (l : Bs) (most : Nat) (hr : Rdr B w g l) (hl : l.length ≤ 1000000000) (hm : most ≤ 1000) : Calls Tryd.prog 75 #[.pointer (some ⟨g, 0, none⟩), .int .i64 (most : Int), .func (.func 21) #[] #[]] w (lnPost B w g l most) := by
  have HN := Lib.hid (tkN_any B w g l hr hl)
  unfold tnPost at HN
  have hgl := hr.lt
  obtain ⟨K, hK⟩ : ∃ K, K = w.heap.size := ⟨_, rfl⟩
  have HKW := Lib.hid hK
  have HGK : Hid (g < K) := by show _ < _; omega
  obtain ⟨Z, hZ⟩ : ∃ Z, Z = ((rdN l).bind fun p => if most < p.1 then none else rdNs p.1 p.2) := ⟨_, rfl⟩
  have HZZ := Lib.hid hZ
  clear hr hK hgl hZ
  have HNO : Hid (∀ (W : World) (r : Bs), Only (fun j => j = g) w W → Rdr B W g r → r.length ≤ l.length → Z = none → lnPost B w g l most (.returned (.tuple #[.slice none 0 0, .bool false])) W) := fun W r h1 h2 h3 h4 =>
    ⟨none, 0, [], r, false, rfl, h2, h1, Mine.nil _ _ _, (fun y hy => by cases hy), h3, Nat.zero_le _, HZZ.out.symm.trans h4⟩
  go_enter Tryd.func75, Tryd.ntmps75
  go_wp2_with fail
  with_reducible refine HN.out.mono ?_
  rintro e w1 ⟨n, r0, b0, rfl, HT, h1, o1, hnb, hle⟩
  have HR1 := Lib.hid h1
  have O1 := Lib.hid o1
  have hs1 := o1.size
  clear h1 o1
  have hnb2 := hnb
  unfold big at hnb2
  cases b0
  · have HQ : Hid (rdN l = none) := by rcases tn_cases HT.out with ⟨_, e⟩ | ⟨h, _⟩; cases e; exact h
    go_wp2_with fail
    go_ret2
    exact HNO.out _ r0 O1.out HR1.out hle (by rw [HZZ.out, HQ.out]; rfl)
  have HQ : Hid (rdN l = some (n, r0)) := by rcases tn_cases HT.out with ⟨h, _⟩ | ⟨_, _, _, e⟩; exact h; cases e
  have hcv : IntKind.u64.wrap (most : Int) = (most : Int) := by rw [IntKind.wrap_u64]; omega
  by_cases hn : most < n
  · have e1 : decide ((most : Int) < n) = true := decide_eq_true (by omega)
    go_wp2_with fail
    go_ret2
    exact HNO.out _ r0 O1.out HR1.out hle (by rw [HZZ.out, HQ.out]; simp only [Option.bind_some]; rw [if_pos hn])
  have e1 : decide ((most : Int) < n) = false := decide_eq_false (by omega)
  have e2 : decide (most < n) = false := decide_eq_false hn
  have hnm : n ≤ most := by omega
  have HBR : Hid (Z = rdNs n r0) := by show _ = _; rw [HZZ.out, HQ.out]; simp only [Option.bind_some]; rw [if_neg hn]
  clear hn HQ HT HN
  go_wp2_with fail
  clear e1 e2 hcv
  go_loopw [10, 27] (fun u i wr => ∃ (k : Nat) (IA : Option Addr) (ik : Nat) (ys : List Nat) (r : Bs), k ≤ n ∧ i = .int .u64 (k : Int) ∧ u = .slice IA ys.length ik ∧ ys.length = k ∧ Rdr B wr g r ∧ NuO K wr IA ik ys ∧ Only (fun j => j = g) w wr ∧ rdNs n r0 = ((rdNs (n - k) r).map fun q => ((ys) ++ q.1, q.2)) ∧ (∀ y ∈ ys, y < big) ∧ r.length ≤ l.length) (fun _ i _ => n - (intOf i).toNat)
  case atStart => exact ⟨0, none, 0, [], r0, Nat.zero_le _, rfl, rfl, rfl, HR1.out, Mine.nil _ _ _, O1.out, by simp, (fun y hy => by cases hy), hle⟩
  case round =>
    obtain ⟨k, IA, ik, ys, r, hk, rfl, rfl, hyl, a1, a2, a3, a4, a5, hrl⟩ := hrel
    obtain ⟨wo, rfl⟩ : ∃ wo : World, wo = wr := ⟨_, rfl⟩
    have HR := Lib.hid a1; have HI := Lib.hid a2; have HO := Lib.hid a3; have HS := Lib.hid a4; have HY := Lib.hid a5
    have hKo : K ≤ wo.heap.size := by rw [HKW.out]; exact a3.size
    clear a1 a2 a3 a4 a5
    by_cases hlt : k < n
    · have i1 : (k : Int) < n := by omega
      have hkm : n - k = (n - (k + 1)) + 1 := by omega
      rw [hkm] at HS
      have hk1 : k + 1 ≤ n := by omega
      clear hkm
      go_wp2_with fail
      with_reducible refine (tkN_any B wo g r HR.out (by omega)).mono ?_
      rintro e w3 ⟨y, r2, b2, rfl, HTT, h2, o2, hb2, hl2⟩
      have HR3 := Lib.hid h2
      have HO3 : Hid (Only (fun j => j = g) w w3) := HO.out.trans (o2.mono (fun j _ e => Or.inl e))
      have HI3 : Hid (NuO K w3 IA ik ys) := Mine.only HI.out o2 (fun a ha e => by have h1 := (Mine.base HI.out ha).1; have := HGK.out; omega)
      have hz3 : K ≤ w3.heap.size := Nat.le_trans hKo o2.size
      clear h2 o2
      cases b2
      · have HQ : Hid (rdNs n r0 = none) := by
          have h : rdN r = none := by rcases tn_cases HTT.out with ⟨_, e⟩ | ⟨h, _⟩; cases e; exact h
          show _ = _; rw [HS.out, rdNs_stop h]; rfl
        go_wp2_with fail
        go_ret2
        exact HNO.out _ r2 HO3.out HR3.out (by omega) (HBR.out.trans HQ.out)
      have HST : Hid (rdNs n r0 = ((rdNs (n - (k + 1)) r2).map fun q => ((ys ++ [y]) ++ q.1, q.2))) := by
        have h : rdN r = some (y, r2) := by rcases tn_cases HTT.out with ⟨h, _⟩ | ⟨_, _, _, e⟩; exact h; cases e
        show _ = _; rw [HS.out, rdNs_step h]
      go_wp2_with (at_builtin; (refine wpList_num rfl _ _ rfl hyl rfl HI3.out y rfl rfl (by omega) hz3 rfl ?_))
      intro IA4 ik4 w4 ys4 HYS h4 b4 _
      have HI4 : Hid (NuO K w4 IA4 ik4 ys4) := h4
      have HR4 := Lib.hid (HR3.out.low b4 HGK.out)
      have HO4 : Hid (Only (fun j => j = g) w w4) := HO3.out.trans (by
        refine ⟨b4.os, b4.tape, b4.output, b4.size, fun j hj hn => b4.block j ?_⟩
        have := HKW.out
        rcases Nat.lt_or_ge j K with h | h
        · exact h
        · exact absurd (Or.inr (by omega)) hn)
      have HYL : Hid (ys4.length = k + 1) := by show _ = _; rw [HYS.out, List.length_append, hyl]; rfl
      have HYB : Hid (∀ q ∈ ys4, q < big) := fun q hq => by
        rw [HYS.out] at hq
        rcases List.mem_append.1 hq with hq | hq
        · exact HY.out q hq
        · rw [List.mem_singleton.1 hq]; exact hb2
      clear h4 b4
      go_wp2_with fail
      go_roundw
      case rel => exact ⟨k + 1, IA4, ik4, ys4, r2, hk1, by go_num, rfl, HYL.out, HR4.out, HI4.out, HO4.out, by rw [HST.out, HYS.out], HYB.out, by omega⟩
      case measure => simp [intOf]; omega
    · obtain rfl : n = k := by omega
      have hnn : ¬ ((n : Nat) : Int) < n := by omega
      have HF : Hid (rdNs n r0 = some (ys, r)) := by show _ = _; rw [HS.out, Nat.sub_self]; simp [rdNs]
      have HFIN : Hid (lnPost B w g l most (.returned (.tuple #[.slice IA ys.length ik, .bool true])) wo) := by
        have h := HI.out
        rw [HKW.out] at h
        exact ⟨IA, ik, ys, r, true, rfl, HR.out, HO.out, h, HY.out, hrl, by omega, HZZ.out.symm.trans (HBR.out.trans HF.out)⟩
      clear hyl
      go_wp2_with fail
      exact bodyPost_ret (v := .tuple #[.slice IA ys.length ik, .bool true]) (by simp [results, Tryd.results75, go_sem]) rfl HFIN.out
end Go.Proofs.YthlfahblnpijaaaDoor.Sy
namespace Go.Proofs.YthlfahblnpijaaaDoor.Sy
open Go.RowKit Vm Ap Vw Va Vg Vc Vp Vn Vs Gc Mi Mb Qm Sm Se So Sb Sn Sp

theorem one_put (w : World) (g j : Nat) (u : Value) : Only (fun q => q = g) w (w.setCell ⟨g, j, none⟩ u) := (Only.refl (fun q => q = g) w).put (ad := ⟨g, j, none⟩) rfl u
theorem boxS_set {w : World} {g : Nat} {x : Res} (h : BoxS w g x) :
    (∀ (IA : Option Addr) (ys : List Im) (ik n : Nat), ys.length = n → BoxS (w.setCell ⟨g, 2, none⟩ (.slice IA n ik)) g { x with items := ys, IA := IA, ik := ik }) ∧
    (∀ n : Nat, BoxS (w.setCell ⟨g, 3, none⟩ (.int .u64 (n : Int))) g { x with version := n }) ∧ (∀ n : Int, BoxS (w.setCell ⟨g, 4, none⟩ (.int .i64 n)) g { x with count := n }) ∧ (∀ (NA : Option Addr) (ns : List Nat) (nk n : Nat), ns.length = n → BoxS (w.setCell ⟨g, 5, none⟩ (.slice NA n nk)) g { x with numbers := ns, NA := NA, nk := nk }) := by
  obtain ⟨h0, h1, h2, h3, h4, h5, hu⟩ := h
  refine ⟨fun IA ys ik n hn => ⟨?_, ?_, ?_, ?_, ?_, ?_, fun j => ?_⟩, fun n => ⟨?_, ?_, ?_, ?_, ?_, ?_, fun j => ?_⟩, fun n => ⟨?_, ?_, ?_, ?_, ?_, ?_, fun j => ?_⟩, fun NA ns nk n hn => ⟨?_, ?_, ?_, ?_, ?_, ?_, fun j => ?_⟩⟩
  all_goals simp [go_sem, h0, h1, h2, h3, h4, h5, hu]
  all_goals subst hn; rfl
/-- A reader, and a response in a block of its own, whose lists lie from block K on. -/
structure RS (B K : Nat) (w : World) (g h : Nat) (x : Res) (l : Bs) : Prop where
  rd : Rdr B w g l
  bx : BoxS w h x
  gt : GotS K w x
  gh : g < h
  hK : h < K
  Kw : K ≤ w.heap.size
  len : l.length ≤ 1000000000
def rkPost (R : Rsp → Bs → Option (Rsp × Bs)) (B K : Nat) (w : World) (g h : Nat) (x : Res) (l : Bs) : Ending → World → Prop := fun e w' =>
  ∃ x' r b, e = .returned (.bool b) ∧ RS B K w' g h x' r ∧ Only (fun j => j = g ∨ j = h) w w' ∧ r.length ≤ l.length ∧ Hid (R x.r l = if b then some (x'.r, r) else none)
theorem bnd_ver {x : Res} (h : BndS x) {n : Nat} (hn : n < big) : BndS { x with version := n } := ⟨h.op1, h.op2, h.err1, h.err2, h.count1, h.count2, by unfold big at hn; exact hn, h.items, h.numbers, h.each, h.nums⟩
theorem bnd_cnt {x : Res} (h : BndS x) {n : Int} (h1 : -9223372036854775808 ≤ n) (h2 : n ≤ 9223372036854775807) : BndS { x with count := n } := ⟨h.op1, h.op2, h.err1, h.err2, h1, h2, h.version, h.items, h.numbers, h.each, h.nums⟩
theorem bnd_its {x : Res} (h : BndS x) {ys : List Im} (h1 : ys.length ≤ 1000) (h2 : ∀ y ∈ ys, ItB y) (IA : Option Addr) (ik : Nat) : BndS { x with items := ys, IA := IA, ik := ik } := ⟨h.op1, h.op2, h.err1, h.err2, h.count1, h.count2, h.version, h1, h.numbers, fun y hy => h2 y hy, h.nums⟩
theorem bnd_nus {x : Res} (h : BndS x) {ns : List Nat} (h1 : ns.length ≤ 1000) (h2 : ∀ n ∈ ns, n < big) (NA : Option Addr) (nk : Nat) : BndS { x with numbers := ns, NA := NA, nk := nk } := ⟨h.op1, h.op2, h.err1, h.err2, h.count1, h.count2, h.version, h.items, h1, h.each, fun n hn => by have := h2 n hn; unfold big at this; exact this⟩
theorem got_ver {K : Nat} {w : World} {x : Res} (h : GotS K w x) {n : Nat} (hn : n < big) : GotS K w { x with version := n } := ⟨⟨h.rc.ri, h.rc.ni, h.rc.rv, h.rc.nv, h.rc.rn, h.rc.nn⟩, bnd_ver h.bnd hn, h.bi, h.bn, h.bv⟩
theorem got_cnt {K : Nat} {w : World} {x : Res} (h : GotS K w x) {n : Int} (h1 : -9223372036854775808 ≤ n) (h2 : n ≤ 9223372036854775807) : GotS K w { x with count := n } := ⟨⟨h.rc.ri, h.rc.ni, h.rc.rv, h.rc.nv, h.rc.rn, h.rc.nn⟩, bnd_cnt h.bnd h1 h2, h.bi, h.bn, h.bv⟩
theorem got_its {K : Nat} {w : World} {x : Res} (h : GotS K w x) {ys : List Im} {IA : Option Addr} {ik : Nat} (hI : ItO K w IA ik ys) (h1 : ys.length ≤ 1000) (h2 : ∀ y ∈ ys, ItB y) : GotS K w { x with items := ys, IA := IA, ik := ik } :=
  ⟨⟨ri_mine hI.mi, hI.mi.non, fun y hy => (hI.pay y hy).1, fun y hy => (hI.pay y hy).2.1, h.rc.rn, h.rc.nn⟩, bnd_its h.bnd h1 h2 IA ik, fun _ ha => ⟨(hI.mi.base ha).1, (hI.mi.base ha).2.1⟩, h.bn, fun y hy a ha => ⟨((hI.pay y hy).2.2 a ha).1, ((hI.pay y hy).2.2 a ha).2.1⟩⟩
theorem got_nus {K : Nat} {w : World} {x : Res} (h : GotS K w x) {ns : List Nat} {NA : Option Addr} {nk : Nat} (hI : NuO K w NA nk ns) (h1 : ns.length ≤ 1000) (h2 : ∀ n ∈ ns, n < big) : GotS K w { x with numbers := ns, NA := NA, nk := nk } :=
  ⟨⟨h.rc.ri, h.rc.ni, h.rc.rv, h.rc.nv, rn_mine hI, Mine.non hI⟩, bnd_nus h.bnd h1 h2 NA nk, h.bi, fun _ ha => ⟨(Mine.base hI ha).1, (Mine.base hI ha).2.1⟩, h.bv⟩
theorem rawK0 {x : Rsp} {l r : Bs} {n : Nat} {b : Bool} (h : tn l = (n, r, b)) : rawK 0 x l = if b then some ({ x with version := n }, r) else none := by
  rcases tn_cases h with ⟨h1, rfl⟩ | ⟨h1, _, _, rfl⟩ <;> (unfold rawK; rw [h1]; rfl)
theorem rawK1 {x : Rsp} {l r : Bs} {n : Nat} {b : Bool} (h : tn l = (n, r, b)) : rawK 1 x l = if b then some ({ x with count := mkI n }, r) else none := by
  rcases tn_cases h with ⟨h1, rfl⟩ | ⟨h1, _, _, rfl⟩ <;> (unfold rawK; rw [h1]; rfl)
theorem rawK2 {x : Rsp} {l r : Bs} {y : Itm} {b : Bool} (h : rawR l = if b then some (y, r) else none) : rawK 2 x l = if b then some ({ x with items := [y] }, r) else none := by
  unfold rawK; simp only; rw [h]; cases b <;> rfl
theorem rawK3 {x : Rsp} {l r : Bs} {ys : List Itm} {b : Bool} (h : ((rdN l).bind fun p => if 16 < p.1 then none else rawIs p.1 p.2) = if b then some (ys, r) else none) : rawK 3 x l = if b then some ({ x with items := ys }, r) else none := by
  unfold rawK
  cases h1 : rdN l with
  | none => rw [h1] at h; cases b; rfl; cases h
  | some p =>
    rw [h1] at h; simp only [Option.bind_some] at h ⊢
    split
    · rename_i hp; rw [if_pos hp] at h; cases b; rfl; cases h
    · rename_i hp; rw [if_neg hp] at h; rw [h]; cases b <;> rfl
theorem rawK4 {x : Rsp} {l r : Bs} {ys : List Nat} {b : Bool} (h : ((rdN l).bind fun p => if 64 < p.1 then none else rdNs p.1 p.2) = if b then some (ys, r) else none) : rawK 4 x l = if b then some ({ x with numbers := ys }, r) else none := by
  unfold rawK
  cases h1 : rdN l with
  | none => rw [h1] at h; cases b; rfl; cases h
  | some p =>
    rw [h1] at h; simp only [Option.bind_some] at h ⊢
    split
    · rename_i hp; rw [if_pos hp] at h; cases b; rfl; cases h
    · rename_i hp; rw [if_neg hp] at h; rw [h]; cases b <;> rfl
set_option maxRecDepth 100000 in
set_option maxHeartbeats 4000000 in
theorem rdk0_any (B K : Nat) (w : World) (g h : Nat) (x : Res) (l : Bs) (hs : RS B K w g h x l) : Calls Tryd.prog 61 #[.pointer (some ⟨g, 0, none⟩), .pointer (some ⟨h, 0, none⟩)] w (rkPost (rawK 0) B K w g h x l) := by
  obtain ⟨hrd, hbx, hgt, hgh, hhK, hKw, hlen⟩ := hs
  have HBX := Lib.hid hbx; have HGT := Lib.hid hgt
  have HHG : Hid (h ≠ g) := by show _ ≠ _; omega
  have HGB : Hid (B ≤ g) := by obtain ⟨_, _, _, h2, _⟩ := hrd; exact h2
  have HN := Lib.hid (tkN_any B w g l hrd hlen)
  clear hrd hbx hgt
  go_enter Tryd.func61, Tryd.ntmps61
  go_wp2_with fail
  with_reducible refine HN.out.mono ?_
  rintro e w1 ⟨n, r, b, rfl, HT, h1, o1, hnb, hle⟩
  have HR1 := Lib.hid h1; have O1 := Lib.hid o1
  have HB1 := Lib.hid (HBX.out.only o1 HHG.out)
  have HG1 := Lib.hid (HGT.out.only o1 (fun j hj _ e => by omega))
  have hz1 := o1.size
  clear h1 o1
  obtain ⟨c0, c1, c2, c3, c4, c5, cun⟩ := HB1.out
  have cu3 := cun 3
  clear cun
  obtain ⟨w2, hw2⟩ : ∃ w2, w2 = w1.setCell ⟨h, 3, none⟩ (.int .u64 (n : Int)) := ⟨_, rfl⟩
  have O2 : Only (fun j => j = h) w1 w2 := by rw [hw2]; exact one_put _ _ _ _
  have HFIN : Hid (rkPost (rawK 0) B K w g h x l (.returned (.bool b)) w2) :=
    ⟨{ x with version := n }, r, b, rfl, ⟨rdr_only HR1.out O2 (fun j _ hj e => by omega), by rw [hw2]; exact (boxS_set HB1.out).2.1 n, (got_ver HG1.out hnb).only O2 (fun j hj _ e => by omega), hgh, hhK, Nat.le_trans hKw (Nat.le_trans hz1 O2.size), by omega⟩,
      (O1.out.mono (fun j _ e => Or.inl e)).trans (O2.mono (fun j _ e => Or.inl (Or.inr e))), hle, rawK0 HT.out⟩
  clear O2
  go_wp2_with fail
  rw [← hw2]
  go_ret
  exact HFIN.out
set_option maxRecDepth 100000 in
set_option maxHeartbeats 4000000 in
theorem rdk1_any (B K : Nat) (w : World) (g h : Nat) (x : Res) (l : Bs) (hs : RS B K w g h x l) : Calls Tryd.prog 63 #[.pointer (some ⟨g, 0, none⟩), .pointer (some ⟨h, 0, none⟩)] w (rkPost (rawK 1) B K w g h x l) := by
  obtain ⟨hrd, hbx, hgt, hgh, hhK, hKw, hlen⟩ := hs
  have HBX := Lib.hid hbx; have HGT := Lib.hid hgt
  have HHG : Hid (h ≠ g) := by show _ ≠ _; omega
  have HGB : Hid (B ≤ g) := by obtain ⟨_, _, _, h2, _⟩ := hrd; exact h2
  have HN := Lib.hid (tkN_any B w g l hrd hlen)
  clear hrd hbx hgt
  go_enter Tryd.func63, Tryd.ntmps63
  go_wp2_with fail
  with_reducible refine HN.out.mono ?_
  rintro e w1 ⟨n, r, b, rfl, HT, h1, o1, hnb, hle⟩
  have HR1 := Lib.hid h1; have O1 := Lib.hid o1
  have HB1 := Lib.hid (HBX.out.only o1 HHG.out)
  have HG1 := Lib.hid (HGT.out.only o1 (fun j hj _ e => by omega))
  have hz1 := o1.size
  clear h1 o1
  obtain ⟨c0, c1, c2, c3, c4, c5, cun⟩ := HB1.out
  have cu4 := cun 4
  clear cun
  have hcv := wrap_mk hnb
  have HCV := Lib.hid hcv
  obtain ⟨w2, hw2⟩ : ∃ w2, w2 = w1.setCell ⟨h, 4, none⟩ (.int .i64 (mkI n)) := ⟨_, rfl⟩
  have O2 : Only (fun j => j = h) w1 w2 := by rw [hw2]; exact one_put _ _ _ _
  have HFIN : Hid (rkPost (rawK 1) B K w g h x l (.returned (.bool b)) w2) :=
    ⟨{ x with count := mkI n }, r, b, rfl, ⟨rdr_only HR1.out O2 (fun j _ hj e => by omega), by rw [hw2]; exact (boxS_set HB1.out).2.2.1 (mkI n), (got_cnt HG1.out (mk_bd hnb).1 (mk_bd hnb).2).only O2 (fun j hj _ e => by omega), hgh, hhK, Nat.le_trans hKw (Nat.le_trans hz1 O2.size), by omega⟩,
      (O1.out.mono (fun j _ e => Or.inl e)).trans (O2.mono (fun j _ e => Or.inl (Or.inr e))), hle, rawK1 HT.out⟩
  clear O2
  go_wp2_with fail
  first | rw [← hw2] | (rw [HCV.out, ← hw2]) | (simp only [HCV.out]; rw [← hw2])
  go_ret
  exact HFIN.out
set_option maxRecDepth 100000 in
set_option maxHeartbeats 4000000 in
theorem rdk2_any (B K : Nat) (w : World) (g h : Nat) (x : Res) (l : Bs) (hs : RS B K w g h x l) : Calls Tryd.prog 66 #[.pointer (some ⟨g, 0, none⟩), .pointer (some ⟨h, 0, none⟩)] w (rkPost (rawK 2) B K w g h x l) := by
  obtain ⟨hrd, hbx, hgt, hgh, hhK, hKw, hlen⟩ := hs
  have HBX := Lib.hid hbx; have HGT := Lib.hid hgt
  have HHG : Hid (h ≠ g) := by show _ ≠ _; omega
  have HGB : Hid (B ≤ g) := by obtain ⟨_, _, _, h2, _⟩ := hrd; exact h2
  have HN := Lib.hid (tkI_any B w g l hrd hlen)
  unfold tiPost at HN
  clear hrd hbx hgt
  go_enter Tryd.func66, Tryd.ntmps66
  go_wp2_with fail
  with_reducible refine HN.out.mono ?_
  rintro e w1 ⟨y, r, b, rfl, h1, o1, hp, hib, hle, HT⟩
  have HR1 := Lib.hid h1; have O1 := Lib.hid o1
  have HB1 := Lib.hid (HBX.out.only o1 HHG.out)
  have HG1 := Lib.hid (HGT.out.only o1 (fun j hj _ e => by omega))
  have HP1 := Lib.hid hp
  have hz1 := o1.size
  clear h1 o1 hp
  obtain ⟨D, hD⟩ : ∃ D, D = w1.heap.size := ⟨_, rfl⟩
  obtain ⟨w2, hw2⟩ : ∃ w2, w2 = w1.alloc (imO y) := ⟨_, rfl⟩
  have b2 : Below w1.heap.size w1 w2 := by rw [hw2]; exact alloc_below _ _
  have HD2 : Hid (BoxI w2 D y) := by show BoxI _ _ _; rw [hw2, hD]; exact BoxI.new _ _
  have HBB2 := Lib.hid (HB1.out.below b2 (Nat.le_refl _))
  obtain ⟨E, hE⟩ : ∃ E, E = w2.heap.size := ⟨_, rfl⟩
  obtain ⟨w3, hw3⟩ : ∃ w3, w3 = w2.alloc (imO y) := ⟨_, rfl⟩
  have b3 : Below w2.heap.size w2 w3 := by rw [hw3]; exact alloc_below _ _
  have b13 : Below w1.heap.size w1 w3 := b2.trans (b3.mono b2.size)
  have HB3 := Lib.hid (HB1.out.below b13 (Nat.le_refl _))
  have HR3 := Lib.hid (HR1.out.below b13 (Nat.le_refl _))
  have HG3 := Lib.hid (HG1.out.below b13 (Nat.le_refl _))
  have HI3 : Hid (ItO K w3 (some ⟨E, 0, none⟩) 1 [y]) := by
    have hm : Mine w2.heap.size 4 (w2.alloc (imO y)) (some ⟨w2.heap.size, 0, none⟩) 1 1 (imL [y]) := Mine.lit w2 #[.int .i64 y.i.mark, .slice y.A y.i.value.length y.k, .int .u64 (y.i.version : Int), .int .u64 (y.i.dead : Int)] 49 1 rfl (by unfold maxLen; omega)
    rw [← hw3, ← hE] at hm
    have hzz := b2.size
    refine ⟨hm.mono (by omega), fun q hq => ?_⟩
    rw [List.mem_singleton.1 hq]
    refine ⟨HP1.out.1.below b13 (Nat.le_refl _), HP1.out.2.1, fun a ha => ⟨by have := (HP1.out.2.2 a ha).1; omega, Nat.lt_of_lt_of_le (HP1.out.2.2 a ha).2 b13.size, fun bb hb e => ?_⟩⟩
    injection hb with hb
    have := (HP1.out.2.2 a ha).2
    rw [← hb] at e
    simp only at e
    omega
  have hz3 := b13.size
  have O13 : Only (fun j => j = g ∨ j = h) w1 w3 := Only.of_below b13 (Nat.le_refl _) _
  obtain ⟨w4, hw4⟩ : ∃ w4, w4 = w3.setCell ⟨h, 2, none⟩ (.slice (some ⟨E, 0, none⟩) 1 1) := ⟨_, rfl⟩
  have O4 : Only (fun j => j = h) w3 w4 := by rw [hw4]; exact one_put _ _ _ _
  have hlt := HB3.out.lt
  have HFIN : Hid (rkPost (rawK 2) B K w g h x l (.returned (.bool b)) w4) :=
    ⟨{ x with items := [y], IA := some ⟨E, 0, none⟩, ik := 1 }, r, b, rfl, ⟨rdr_only HR3.out O4 (fun j _ hj e => by omega), by rw [hw4]; exact (boxS_set HB3.out).1 _ _ _ _ rfl, (got_its HG3.out HI3.out (by simp) (fun q hq => by rw [List.mem_singleton.1 hq]; exact hib)).only O4 (fun j hj _ e => by omega), hgh, hhK, by have := O4.size; omega, by omega⟩,
      ((O1.out.mono (fun j _ e => Or.inl e)).trans (O13.mono (fun j _ e => Or.inl e))).trans (O4.mono (fun j _ e => Or.inl (Or.inr e))), hle, rawK2 HT.out⟩
  unfold imO at hw2 hw3
  unfold imV
  clear O4 O13 b2 b3 b13
  go_upto_region 2 with fail
  rw [← hw2, ← hD]
  clear hw2 hD
  obtain ⟨d0, d1, d2, d3, _⟩ := HD2.out
  obtain ⟨c0, c1, c2, c3, c4, c5, cun⟩ := HB3.out
  obtain ⟨_, _, q2, _, _, _, qun⟩ := HBB2.out
  have cu := cun 2; have qu := qun 2
  have hlt2 : h < w2.heap.size := HBB2.out.lt
  clear cun qun
  have hcm : (w2.setCell ⟨h, 2, none⟩ (.slice (some ⟨E, 0, none⟩) 1 1)).alloc (.cells #[.int .i64 y.i.mark, .slice y.A y.i.value.length y.k, .int .u64 (y.i.version : Int), .int .u64 (y.i.dead : Int)] 49) = w4 := by
    rw [hw4, hw3]; simp [go_sem, hlt2]
  go_upto_region 3 with fail
  rw [← hE, hcm]
  clear hw3 hE hw4 hcm
  go_wp2_with fail
  go_ret
  exact HFIN.out
set_option maxRecDepth 100000 in
set_option maxHeartbeats 4000000 in
theorem rdk3_any (B K : Nat) (w : World) (g h : Nat) (x : Res) (l : Bs) (hs : RS B K w g h x l) : Calls Tryd.prog 70 #[.pointer (some ⟨g, 0, none⟩), .pointer (some ⟨h, 0, none⟩)] w (rkPost (rawK 3) B K w g h x l) := by
  obtain ⟨hrd, hbx, hgt, hgh, hhK, hKw, hlen⟩ := hs
  have HBX := Lib.hid hbx; have HGT := Lib.hid hgt
  have HHG : Hid (h ≠ g) := by show _ ≠ _; omega
  have HGB : Hid (B ≤ g) := by obtain ⟨_, _, _, h2, _⟩ := hrd; exact h2
  have HN := Lib.hid (tkLI_any B w g l 16 hrd hlen (by omega))
  unfold liPost at HN
  simp only [Int.cast_ofNat_Int] at HN
  clear hrd hbx hgt
  go_enter Tryd.func70, Tryd.ntmps70
  go_wp2_with fail
  with_reducible refine HN.out.mono ?_
  rintro e w1 ⟨LA, lk, ls, r, b, rfl, h1, o1, hI, hib, hle, hlm, HT⟩
  have HR1 := Lib.hid h1; have O1 := Lib.hid o1
  have HB1 := Lib.hid (HBX.out.only o1 HHG.out)
  have HG1 := Lib.hid (HGT.out.only o1 (fun j hj _ e => by omega))
  have HI1 := Lib.hid (hI.mono hKw)
  have hz1 := o1.size
  clear h1 o1 hI
  obtain ⟨c0, c1, c2, c3, c4, c5, cun⟩ := HB1.out
  have cu := cun 2
  clear cun
  obtain ⟨w2, hw2⟩ : ∃ w2, w2 = w1.setCell ⟨h, 2, none⟩ (.slice LA ls.length lk) := ⟨_, rfl⟩
  have O2 : Only (fun j => j = h) w1 w2 := by rw [hw2]; exact one_put _ _ _ _
  have HFIN : Hid (rkPost (rawK 3) B K w g h x l (.returned (.bool b)) w2) :=
    ⟨{ x with items := ls, IA := LA, ik := lk }, r, b, rfl, ⟨rdr_only HR1.out O2 (fun j _ hj e => by omega), by rw [hw2]; exact (boxS_set HB1.out).1 LA ls lk _ rfl, (got_its HG1.out HI1.out (by omega) hib).only O2 (fun j hj _ e => by omega), hgh, hhK, Nat.le_trans hKw (Nat.le_trans hz1 O2.size), by omega⟩,
      (O1.out.mono (fun j _ e => Or.inl e)).trans (O2.mono (fun j _ e => Or.inl (Or.inr e))), hle, rawK3 HT.out⟩
  clear O2
  go_wp2_with fail
  rw [← hw2]
  go_ret
  exact HFIN.out
set_option maxRecDepth 100000 in
set_option maxHeartbeats 4000000 in
theorem rdk4_any (B K : Nat) (w : World) (g h : Nat) (x : Res) (l : Bs) (hs : RS B K w g h x l) : Calls Tryd.prog 74 #[.pointer (some ⟨g, 0, none⟩), .pointer (some ⟨h, 0, none⟩)] w (rkPost (rawK 4) B K w g h x l) := by
  obtain ⟨hrd, hbx, hgt, hgh, hhK, hKw, hlen⟩ := hs
  have HBX := Lib.hid hbx; have HGT := Lib.hid hgt
  have HHG : Hid (h ≠ g) := by show _ ≠ _; omega
  have HGB : Hid (B ≤ g) := by obtain ⟨_, _, _, h2, _⟩ := hrd; exact h2
  have HN := Lib.hid (tkLN_any B w g l 64 hrd hlen (by omega))
  unfold lnPost at HN
  simp only [Int.cast_ofNat_Int] at HN
  clear hrd hbx hgt
  go_enter Tryd.func74, Tryd.ntmps74
  go_wp2_with fail
  with_reducible refine HN.out.mono ?_
  rintro e w1 ⟨LA, lk, ls, r, b, rfl, h1, o1, hI, hib, hle, hlm, HT⟩
  have HR1 := Lib.hid h1; have O1 := Lib.hid o1
  have HB1 := Lib.hid (HBX.out.only o1 HHG.out)
  have HG1 := Lib.hid (HGT.out.only o1 (fun j hj _ e => by omega))
  have HI1 := Lib.hid (Mine.mono hI hKw)
  have hz1 := o1.size
  clear h1 o1 hI
  obtain ⟨c0, c1, c2, c3, c4, c5, cun⟩ := HB1.out
  have cu := cun 5
  clear cun
  obtain ⟨w2, hw2⟩ : ∃ w2, w2 = w1.setCell ⟨h, 5, none⟩ (.slice LA ls.length lk) := ⟨_, rfl⟩
  have O2 : Only (fun j => j = h) w1 w2 := by rw [hw2]; exact one_put _ _ _ _
  have HFIN : Hid (rkPost (rawK 4) B K w g h x l (.returned (.bool b)) w2) :=
    ⟨{ x with numbers := ls, NA := LA, nk := lk }, r, b, rfl, ⟨rdr_only HR1.out O2 (fun j _ hj e => by omega), by rw [hw2]; exact (boxS_set HB1.out).2.2.2 LA ls lk _ rfl, (got_nus HG1.out HI1.out (by omega) hib).only O2 (fun j hj _ e => by omega), hgh, hhK, Nat.le_trans hKw (Nat.le_trans hz1 O2.size), by omega⟩,
      (O1.out.mono (fun j _ e => Or.inl e)).trans (O2.mono (fun j _ e => Or.inl (Or.inr e))), hle, rawK4 HT.out⟩
  clear O2
  go_wp2_with fail
  rw [← hw2]
  go_ret
  exact HFIN.out
end Go.Proofs.YthlfahblnpijaaaDoor.Sy
namespace Go.Proofs.YthlfahblnpijaaaDoor.Sy
open Go.RowKit Vm Ap Vw Va Vg Vc Vp Vn Vs Gc Mi Mb Qm Sm Se So Sb Sc Sn Sp Sg Fm Fw

theorem RS.below {B K : Nat} {w w' : World} {g h : Nat} {x : Res} {l : Bs} (hs : RS B K w g h x l) {B' : Nat} (hb : Below B' w w') (hB : w.heap.size ≤ B') : RS B K w' g h x l :=
  ⟨hs.rd.below hb hB, hs.bx.below hb hB, hs.gt.below hb hB, hs.gh, hs.hK, Nat.le_trans hs.Kw hb.size, hs.len⟩
theorem rawAll_drop {ks : List Nat} {k : Nat} (h : k < ks.length) (x : Rsp) (l : Bs) : rawAll (ks.drop k) x l = (rawK ks[k] x l).bind fun q => rawAll (ks.drop (k + 1)) q.1 q.2 := by
  rw [List.drop_eq_getElem_cons h]; rfl
set_option maxRecDepth 100000 in
set_option maxHeartbeats 8000000 in
theorem tog2_any (B K B2 gp : Nat) (ks : List Nat) (w : World) (g h : Nat) (x : Res) (l : Bs) (hp : PB B2 w gp ks) (hs : RS B K w g h x l) (h2 : h < B2) (h5 : ∀ k ∈ ks, k ≤ 4) (hk : ks.length ≤ 10) :
    Calls Tryd.prog 49 #[.pointer (some ⟨g, 0, none⟩), .pointer (some ⟨h, 0, none⟩), .pointer (some ⟨gp, 0, none⟩)] w (rkPost (rawAll ks) B K w g h x l) := by
  have H5 := Lib.hid h5
  have HS := Lib.hid hs
  have hgh := hs.gh
  have hln := hs.len
  obtain ⟨Z, zc, hc, hrp, hzb⟩ := hp
  have HRP := Lib.hid hrp; have HZB := Lib.hid hzb
  clear hs h5 hrp hzb
  go_enter Tryd.func49, Tryd.ntmps49
  go_wp2_with fail
  clear hc
  go_loopw [10] (fun i wr => ∃ (k : Nat) (y : Res) (r : Bs), k ≤ ks.length ∧ i = .int .i64 (k : Int) ∧ RS B K wr g h y r ∧ Only (fun j => j = g ∨ j = h) w wr ∧ rawAll ks x.r l = rawAll (ks.drop k) y.r r ∧ r.length ≤ l.length) (fun i _ => ks.length - (intOf i).toNat)
  case atStart => exact ⟨0, x, l, Nat.zero_le _, rfl, HS.out, Only.refl _ _, rfl, Nat.le_refl _⟩
  case round =>
    obtain ⟨k, y, r, hkl, rfl, a1, a2, a3, hrl⟩ := hrel
    obtain ⟨wo, rfl⟩ : ∃ wo : World, wo = wr := ⟨_, rfl⟩
    have HR := Lib.hid a1; have HO := Lib.hid a2; have HA := Lib.hid a3
    clear a1 a2 a3
    by_cases hlt : k < ks.length
    · have i1 : (k : Int) < ks.length := by omega
      have HSU := Lib.hid (rawAll_drop hlt y.r r)
      obtain ⟨p1, o1, rfl, l1, c0, c1, c2⟩ := (HRP.out.only HO.out (fun a ha e => by have := HZB.out a ha; omega)).at_ hlt
      have hq5 := H5.out _ (List.getElem_mem hlt)
      obtain ⟨q, hq⟩ : ∃ q, q = ks[k] := ⟨_, rfl⟩
      rw [← hq] at c0 c1 c2 hq5 HSU
      clear hq
      obtain ⟨f1, hf1⟩ := wf_func q
      obtain ⟨f2, hf2⟩ := rf_func q
      have HF2 := Lib.hid hf2
      rw [hf1] at c1
      rw [hf2] at c2
      clear hf1 hf2
      obtain ⟨w4, hw4⟩ : ∃ w4, w4 = wo.alloc (.cells #[.int .u64 (nmK q : Int), .func f1 #[] #[], .func f2 #[] #[]] 59) := ⟨_, rfl⟩
      have b4 : Below wo.heap.size wo w4 := by rw [hw4]; exact alloc_below _ _
      obtain ⟨D, hD⟩ : ∃ D, D = wo.heap.size := ⟨_, rfl⟩
      have bA : Cel3 w4 D (.int .u64 (nmK q : Int)) (.func f1 #[] #[]) (.func f2 #[] #[]) := by rw [hw4, hD]; exact Cel3.new wo _ _ _ _
      obtain ⟨d0, d1, d2, _, _, _⟩ := bA
      have HR4 := Lib.hid (HR.out.below b4 (Nat.le_refl _))
      have HO4 : Hid (Only (fun j => j = g ∨ j = h) w w4) := HO.out.trans (Only.of_below b4 (Nat.le_refl _) _)
      clear b4
      go_upto_region 4 with fail
      rw [← hw4, ← hD]
      clear hw4 hD c0 c1 c2 l1
      obtain ⟨PQ, hPQ⟩ : ∃ PQ : Ending → World → Prop, PQ = rkPost (rawK q) B K w4 g h y r := ⟨_, rfl⟩
      have HPQ := Lib.hid hPQ
      clear hPQ
      have hqq : q = 0 ∨ q = 1 ∨ q = 2 ∨ q = 3 ∨ q = 4 := by omega
      rcases hqq with rfl | rfl | rfl | rfl | rfl
      case' inl =>
        have e1 := HF2.out
        injection e1 with e1
        subst e1
        have HCL2 : Hid (Calls Tryd.prog 61 #[.pointer (some ⟨g, 0, none⟩), .pointer (some ⟨h, 0, none⟩)] w4 PQ) := by show Calls _ _ _ _ _; rw [HPQ.out]; exact rdk0_any B K w4 g h y r HR4.out
      case' inr.inl =>
        have e1 := HF2.out
        injection e1 with e1
        subst e1
        have HCL2 : Hid (Calls Tryd.prog 63 #[.pointer (some ⟨g, 0, none⟩), .pointer (some ⟨h, 0, none⟩)] w4 PQ) := by show Calls _ _ _ _ _; rw [HPQ.out]; exact rdk1_any B K w4 g h y r HR4.out
      case' inr.inr.inl =>
        have e1 := HF2.out
        injection e1 with e1
        subst e1
        have HCL2 : Hid (Calls Tryd.prog 66 #[.pointer (some ⟨g, 0, none⟩), .pointer (some ⟨h, 0, none⟩)] w4 PQ) := by show Calls _ _ _ _ _; rw [HPQ.out]; exact rdk2_any B K w4 g h y r HR4.out
      case' inr.inr.inr.inl =>
        have e1 := HF2.out
        injection e1 with e1
        subst e1
        have HCL2 : Hid (Calls Tryd.prog 70 #[.pointer (some ⟨g, 0, none⟩), .pointer (some ⟨h, 0, none⟩)] w4 PQ) := by show Calls _ _ _ _ _; rw [HPQ.out]; exact rdk3_any B K w4 g h y r HR4.out
      case' inr.inr.inr.inr =>
        have e1 := HF2.out
        injection e1 with e1
        subst e1
        have HCL2 : Hid (Calls Tryd.prog 74 #[.pointer (some ⟨g, 0, none⟩), .pointer (some ⟨h, 0, none⟩)] w4 PQ) := by show Calls _ _ _ _ _; rw [HPQ.out]; exact rdk4_any B K w4 g h y r HR4.out
      all_goals
       clear HF2
       go_wp2_with fail
       with_reducible refine HCL2.out.mono ?_
       intro e w5 hpost
       rw [HPQ.out] at hpost
       obtain ⟨y5, r5, b5, rfl, hs5, o5, hl5, HRW⟩ := hpost
       have HR5 := Lib.hid hs5
       have HO5 : Hid (Only (fun j => j = g ∨ j = h) w w5) := HO4.out.trans (o5.mono (fun j _ e => Or.inl e))
       clear hs5 o5 d0 d1 d2 HCL2
       cases b5
       · have HQ : Hid (rawAll ks x.r l = none) := by
           have hn : rawK _ y.r r = none := HRW.out
           show _ = _; rw [HA.out, HSU.out, hn]; rfl
         go_wp2_with fail
         go_ret
         exact ⟨y5, r5, false, rfl, HR5.out, HO5.out, by omega, HQ.out⟩
       · have HQ : Hid (rawAll ks x.r l = rawAll (ks.drop (k + 1)) y5.r r5) := by
           have hn : rawK _ y.r r = some (y5.r, r5) := HRW.out
           show _ = _; rw [HA.out, HSU.out, hn]; rfl
         go_wp2_with fail
         go_roundw
         case rel => exact ⟨k + 1, y5, r5, by omega, by go_num, HR5.out, HO5.out, HQ.out, by omega⟩
         case measure => simp [intOf]; omega
    · obtain rfl : k = ks.length := by omega
      have hnn : ¬ (ks.length : Int) < ks.length := by omega
      have HQ : Hid (rawAll ks x.r l = some (y.r, r)) := by show _ = _; rw [HA.out, List.drop_length]; rfl
      go_wp2_with fail
      go_ret
      exact ⟨y, r, true, rfl, HR.out, HO.out, hrl, HQ.out⟩
end Go.Proofs.YthlfahblnpijaaaDoor.Sy
namespace Go.Proofs.YthlfahblnpijaaaDoor.Sy
open Go.RowKit Vm Ap Vw Va Vg Vc Vp Vn Vs Gc Mi Mb Qm Sm Se So Sb Sc Sn Sp Sg Fm Fw

/-- What Read leaves: a response in new memory, or an error. -/
def rdPost (w : World) (R : Option Rsp) : Ending → World → Prop := fun e w' =>
  ∃ x, e = .returned (.tuple #[resV x, .int .i64 (if R.isSome then 0 else 6)]) ∧ GotS w.heap.size w' x ∧ (∀ c, R = some c → x.r = c) ∧ (R = none → x = startS 0 0) ∧ Below w.heap.size w w'
theorem rd_none {w w' : World} {R : Option Rsp} (h : R = none) {v : Value} (hv : v = .tuple #[.agg #[.int .i64 0, .int .i64 0, .slice none 0 0, .int .u64 0, .int .i64 0, .slice none 0 0], .int .i64 6]) (hb : Below w.heap.size w w') : rdPost w R (.returned v) w' := by
  subst h; subst hv
  exact ⟨startS 0 0, rfl, gotS_zero _ _, (fun c e => by cases e), fun _ => rfl, hb⟩
theorem body_le (op err : Int) : (∀ k ∈ bodyK op err, k ≤ 4) ∧ (bodyK op err).length ≤ 10 := by
  unfold bodyK partsS
  repeat' split
  all_goals simp
set_option maxRecDepth 100000 in
set_option maxHeartbeats 8000000 in
theorem read_any (c : UInt8) (A : Option Addr) (p : Bs) (d : Nat) (w : World) (hA : Rb w A p) (hp : p.length ≤ 2000000) :
    Calls Tryd.prog 9 #[.agg #[.int .u8 (c.toNat : Int), .slice A p.length d]] w (rdPost w (readF c.toNat p)) := by
  rw [← read_go]
  obtain ⟨C, hC⟩ : ∃ C, C = w.heap.size := ⟨_, rfl⟩
  obtain ⟨w0, hw0⟩ : ∃ w0, w0 = (w.alloc (.cells #[.int .u8 (c.toNat : Int), .slice A p.length d] 31)).alloc (resO (startS 0 0)) := ⟨_, rfl⟩
  have HB0 : Hid (Below C w w0) := by show Below _ _ _; rw [hw0, hC]; exact two_below w _ _
  have HF0 : Hid (Cel w0 C (.int .u8 (c.toNat : Int)) (.slice A p.length d)) := by show Cel _ _ _ _; rw [hw0, hC]; exact (Cel.new w _ _ _).below (alloc_below _ _) (Nat.le_refl _)
  have HZ0 : Hid (BoxS w0 (C + 1) (startS 0 0)) := by
    have hb := BoxS.new (w.alloc (.cells #[.int .u8 (c.toNat : Int), .slice A p.length d] 31)) (startS 0 0)
    have e : (w.alloc (.cells #[.int .u8 (c.toNat : Int), .slice A p.length d] 31)).heap.size = w.heap.size + 1 := by simp
    rw [e] at hb
    show BoxS _ _ _
    rw [hw0, hC]; exact hb
  have HS0 : Hid (w0.heap.size = C + 2) := by show _ = _; rw [hw0, hC]; simp
  have HC := Lib.hid hC
  have HS := Lib.hid (fsize_ok c A p d w0 (by omega))
  unfold twoPost at HS
  have HA0 : Hid (Rb w0 A p) := hA.below HB0.out (by omega)
  have hc := c.toNat_lt
  obtain ⟨R, hR⟩ : ∃ R, R = readGo ((c.toNat : Int) - 64) p := ⟨_, rfl⟩
  rw [← hR]
  have HRR : Hid (R = (rdN p).bind fun e => (rawAll (bodyK ((c.toNat : Int) - 64) (mkI e.1)) (bareR ((c.toNat : Int) - 64) (mkI e.1)) e.2).bind finS) := hR
  clear hR
  have e0 : resO (startS 0 0) = .cells #[.int .i64 0, .int .i64 0, .slice none 0 0, .int .u64 0, .int .i64 0, .slice none 0 0] 28 := rfl
  rw [e0] at hw0
  generalize ((wire c p).length : Int) = fz at *
  generalize c.toNat = cn at *
  clear e0 hA
  obtain ⟨cf0, cf1, _, _⟩ := HF0.out
  go_enter Tryd.func9, Tryd.ntmps9
  go_upto_region 1 with fail
  rw [← hw0, ← hC]
  clear hw0 hC
  go_wp2_with fail
  with_reducible refine HS.out.mono ?_
  rintro e w1 ⟨rfl, b1⟩
  have HB1 : Hid (Below C w w1) := HB0.out.trans (b1.mono (by rw [HS0.out]; omega))
  have HF1 := Lib.hid (HF0.out.below b1 (Nat.le_refl _))
  have HZ1 := Lib.hid (HZ0.out.below b1 (Nat.le_refl _))
  have HA1 := Lib.hid (HA0.out.below b1 (Nat.le_refl _))
  have HS1 : Hid (C + 2 ≤ w1.heap.size) := by show _ ≤ _; rw [← HS0.out]; exact b1.size
  clear b1 cf0 cf1 HB0 HF0 HZ0 HA0 HS
  obtain ⟨_, cf1, _, _⟩ := HF1.out
  go_wp2_with fail
  refine (new_any A p d w1 HA1.out (by omega)).mono ?_
  rintro e w2 ⟨g, rfl, hr, b2⟩
  have HR2 := Lib.hid hr
  have HGB : Hid (w1.heap.size ≤ g) := by obtain ⟨_, _, _, h2, _⟩ := hr; exact h2
  have HB2 : Hid (Below C w w2) := HB1.out.trans (b2.mono (by have := HS1.out; omega))
  have HF2 := Lib.hid (HF1.out.below b2 (Nat.le_refl _))
  have HZ2 := Lib.hid (HZ1.out.below b2 (Nat.le_refl _))
  clear hr b2 cf1 HB1 HF1 HZ1 HA1
  go_wp2_with fail
  with_reducible refine (tkN_any w1.heap.size w2 g p HR2.out (by omega)).mono ?_
  rintro e w3 ⟨n, r, b, rfl, HT, h3, o3, hnb, hle⟩
  have HR3 := Lib.hid h3
  have HCG : Hid (C + 2 ≤ g) := Nat.le_trans HS1.out HGB.out
  have hcg := HCG.out
  have HF3 := Lib.hid (cel_only HF2.out o3 (by omega))
  have HZ3 := Lib.hid (HZ2.out.only o3 (by omega))
  have HB3 : Hid (Below C w w3) := HB2.out.trans (o3.below (B := C) (fun j e => by omega) (by have := HB2.out.size; have := HC.out; omega))
  clear h3 o3 HB2 HF2 HZ2 HR2
  obtain ⟨cf0, _, _, _⟩ := HF3.out
  have HCV := Lib.hid (wrap_mk hnb)
  go_wp2_with fail
  with_reducible refine (fail_any _ _ w3).mono ?_
  rintro e w4 ⟨rfl, b4⟩
  have HB4 : Hid (Below C w w4) := HB3.out.trans (b4.mono (by have := HB3.out.size; have := HC.out; omega))
  have HZ4 := Lib.hid (HZ3.out.below b4 (Nat.le_refl _))
  have HR4 := Lib.hid (HR3.out.below b4 (Nat.le_refl _))
  clear b4 cf0 HB3 HF3 HZ3 HR3
  obtain ⟨op, hop⟩ : ∃ op : Int, op = (cn : Int) - 64 := ⟨_, rfl⟩
  obtain ⟨er, her⟩ : ∃ er : Int, er = wrap64 (n : Int) := ⟨_, rfl⟩
  have hopb : -64 ≤ op ∧ op ≤ 191 := by omega
  have herb : -9223372036854775808 ≤ er ∧ er ≤ 9223372036854775807 := by rw [her, HCV.out]; exact mk_bd hnb
  obtain ⟨h, hh⟩ : ∃ h, h = w4.heap.size := ⟨_, rfl⟩
  obtain ⟨w5, hw5⟩ : ∃ w5, w5 = w4.alloc (resO (startS op er)) := ⟨_, rfl⟩
  have b5 : Below w4.heap.size w4 w5 := by rw [hw5]; exact alloc_below _ _
  have HB5 : Hid (Below C w w5) := HB4.out.trans (b5.mono (by have := HB4.out.size; have := HC.out; omega))
  have HZ5 := Lib.hid (HZ4.out.below b5 (Nat.le_refl _))
  have HX5 : Hid (BoxS w5 h (startS op er)) := by show BoxS _ _ _; rw [hw5, hh]; exact BoxS.new _ _
  have HGH : Hid (g < h) := by show _ < _; rw [hh]; exact HR4.out.lt
  have HHS : Hid (h < w5.heap.size) := HX5.out.lt
  have HRS : Hid (RS w1.heap.size w5.heap.size w5 g h (startS op er) r) := ⟨HR4.out.below b5 (Nat.le_refl _), HX5.out, ⟨RRc.start _ _ _, bnd_bareS op er (by omega) (by omega) herb.1 herb.2, (fun a e => by cases e), (fun a e => by cases e), (fun y hy => by cases hy)⟩, HGH.out, HHS.out, Nat.le_refl _, by omega⟩
  have HRN : Hid (b = false → R = none) := fun hb => by
    rcases tn_cases HT.out with ⟨_, e⟩ | ⟨h1, _⟩
    · rw [hb] at e; cases e
    · rw [HRR.out, h1]; rfl
  have HRY : Hid (b = true → R = (rawAll (bodyK op er) (startS op er).r r).bind finS) := fun hb => by
    rcases tn_cases HT.out with ⟨h1, _⟩ | ⟨_, _, _, e⟩
    · rw [HRR.out, h1, her, HCV.out, hop]; rfl
    · rw [hb] at e; cases e
  have e0 : resO (startS op er) = .cells #[.int .i64 op, .int .i64 er, .slice none 0 0, .int .u64 0, .int .i64 0, .slice none 0 0] 28 := rfl
  rw [e0] at hw5
  clear e0 b5 HR4 HRR HT
  unfold resV startS
  simp only [List.length_nil, Int.natCast_zero]
  rw [← her, ← hop]
  clear hop her
  go_upto_region 7 with fail
  rw [← hw5, ← hh]
  clear hw5 hh HZ4 HB4
  cases b
  · have HN := Lib.hid (HRN.out rfl)
    obtain ⟨z0, z1, z2, z3, z4, z5, zun⟩ := HZ5.out
    have zu0 := zun 0; have zu1 := zun 1; have zu2 := zun 2; have zu3 := zun 3; have zu4 := zun 4; have zu5 := zun 5
    have HBq := Lib.hid (HB5.out)
    clear zun
    go_wp2_with fail
    have HFz := put6 w5 (C + 1) (.int .i64 0) (.int .i64 0) (.slice none 0 0) (.int .u64 0) (.int .i64 0) (.slice none 0 0)
    have HBf := HBq.out.trans (HFz.below (B := C) (fun j e => by omega) (by have h1 := HBq.out.size; have h2 := HC.out; omega))
    replace HBf := HBf.mono (show w.heap.size ≤ C by have h2 := HC.out; omega)
    exact bodyPost_ret (v := .tuple #[.agg #[.int .i64 0, .int .i64 0, .slice none 0 0, .int .u64 0, .int .i64 0, .slice none 0 0], .int .i64 6]) (by simp [results, Tryd.results9, go_sem, z0, z1, z2, z3, z4, z5]) rfl (rd_none HN.out rfl HBf)
  have HRA := Lib.hid (HRY.out rfl)
  clear HRN HRY
  obtain ⟨hk5, hk10⟩ := body_le op er
  have HK5 := Lib.hid hk5
  have HBO := Lib.hid (fun W => body_any op er W)
  obtain ⟨ks, hks⟩ : ∃ ks, ks = bodyK op er := ⟨_, rfl⟩
  rw [← hks] at HBO HRA HK5 hk10
  unfold togPost togV at HBO
  clear hks hk5
  obtain ⟨x0, x1, _, _, _, _, _⟩ := HX5.out
  have x0' : w5.cell? ⟨h, 0, none⟩ = some (.int .i64 op) := x0
  have x1' : w5.cell? ⟨h, 1, none⟩ = some (.int .i64 er) := x1
  clear x0 x1
  go_wp2_with fail
  with_reducible refine (HBO.out _).mono ?_
  rintro e w6 ⟨gp, rfl, hpb, hgp, b6⟩
  have HPB := Lib.hid hpb
  have HRS6 := Lib.hid (HRS.out.below b6 (Nat.le_refl _))
  have HZ6 := Lib.hid (HZ5.out.below b6 (Nat.le_refl _))
  have HB6 : Hid (Below C w w6) := HB5.out.trans (b6.mono (by have := HB5.out.size; have := HC.out; omega))
  have FL := fun v => fld2 (.int .u64 (setN ks : Int)) (.func (.func 48) #[] #[.pointer (some ⟨gp, 0, none⟩)]) (.func (.func 49) #[] #[.pointer (some ⟨gp, 0, none⟩)]) v
  have HTO := Lib.hid (tog2_any w1.heap.size w5.heap.size w5.heap.size gp ks w6 g h (startS op er) r HPB.out HRS6.out HHS.out HK5.out hk10)
  clear hpb b6 x0' x1' hgp
  go_wp2_with fail
  with_reducible refine HTO.out.mono ?_
  rintro e w7 ⟨y, r7, b7, rfl, hs7, o7, hl7, HRW⟩
  have HS7 := Lib.hid hs7
  have hgh := HGH.out
  have HZ7 := Lib.hid (HZ6.out.only o7 (by omega))
  have HB7 : Hid (Below C w w7) := HB6.out.trans (o7.below (B := C) (fun j e => by omega) (by have := HB6.out.size; have := HC.out; omega))
  clear hs7 o7 FL HTO
  cases b7
  · have HN : Hid (R = none) := by
      have hn : rawAll ks (startS op er).r r = none := HRW.out
      show _ = _; rw [HRA.out, hn]; rfl
    obtain ⟨z0, z1, z2, z3, z4, z5, zun⟩ := HZ7.out
    have zu0 := zun 0; have zu1 := zun 1; have zu2 := zun 2; have zu3 := zun 3; have zu4 := zun 4; have zu5 := zun 5
    have HBq := Lib.hid (HB7.out)
    clear zun
    go_wp2_with fail
    have HFz := put6 w7 (C + 1) (.int .i64 0) (.int .i64 0) (.slice none 0 0) (.int .u64 0) (.int .i64 0) (.slice none 0 0)
    have HBf := HBq.out.trans (HFz.below (B := C) (fun j e => by omega) (by have h1 := HBq.out.size; have h2 := HC.out; omega))
    replace HBf := HBf.mono (show w.heap.size ≤ C by have h2 := HC.out; omega)
    exact bodyPost_ret (v := .tuple #[.agg #[.int .i64 0, .int .i64 0, .slice none 0 0, .int .u64 0, .int .i64 0, .slice none 0 0], .int .i64 6]) (by simp [results, Tryd.results9, go_sem, z0, z1, z2, z3, z4, z5]) rfl (rd_none HN.out rfl HBf)
  have HRB : Hid (R = finS (y.r, r7)) := by
    have hn : rawAll ks (startS op er).r r = some (y.r, r7) := HRW.out
    show _ = _; rw [HRA.out, hn]; rfl
  clear HRA HRW
  have HL := Lib.hid (left_any w1.heap.size w7 g r7 HS7.out.rd)
  go_wp2_with fail
  with_reducible refine HL.out.mono ?_
  rintro e wx ⟨rfl, rfl⟩
  by_cases hl0 : 0 < r7.length
  · have HN : Hid (R = none) := by
      show _ = _; rw [HRB.out]; unfold finS; rw [if_neg (fun h => by have := h.1; simp only at this; rw [this] at hl0; simp at hl0)]
    have hl1 : (0 : Int) < r7.length := by omega
    have hln : r7 ≠ [] := fun e => by rw [e] at hl0; simp at hl0
    clear hl0
    obtain ⟨z0, z1, z2, z3, z4, z5, zun⟩ := HZ7.out
    have zu0 := zun 0; have zu1 := zun 1; have zu2 := zun 2; have zu3 := zun 3; have zu4 := zun 4; have zu5 := zun 5
    have HBq := Lib.hid (HB7.out)
    clear zun
    go_wp2_with fail
    have HFz := put6 w7 (C + 1) (.int .i64 0) (.int .i64 0) (.slice none 0 0) (.int .u64 0) (.int .i64 0) (.slice none 0 0)
    have HBf := HBq.out.trans (HFz.below (B := C) (fun j e => by omega) (by have h1 := HBq.out.size; have h2 := HC.out; omega))
    replace HBf := HBf.mono (show w.heap.size ≤ C by have h2 := HC.out; omega)
    exact bodyPost_ret (v := .tuple #[.agg #[.int .i64 0, .int .i64 0, .slice none 0 0, .int .u64 0, .int .i64 0, .slice none 0 0], .int .i64 6]) (by simp [results, Tryd.results9, go_sem, z0, z1, z2, z3, z4, z5]) rfl (rd_none HN.out rfl HBf)
  have hle7 : r7 = [] := List.eq_nil_of_length_eq_zero (by omega)
  have HRC : Hid (R = if validS y.r = true then some y.r else none) := by
    show _ = _; rw [HRB.out, hle7]; unfold finS; simp
  clear HRB hl0
  subst hle7
  simp only [List.length_nil]
  have HV := Lib.hid (valid_any y w7 HS7.out.gt.rc HS7.out.gt.bnd)
  generalize validS y.r = vb at *
  unfold resV at HV
  obtain ⟨y0, y1, y2, y3, y4, y5, _⟩ := HS7.out.bx
  go_wp2_with fail
  with_reducible refine HV.out.mono ?_
  rintro e w8 ⟨rfl, b8⟩
  have HB8 : Hid (Below C w w8) := HB7.out.trans (b8.mono (by have := HB7.out.size; have := HC.out; omega))
  have HZ8 := Lib.hid (HZ7.out.below b8 (Nat.le_refl _))
  have HX8 := Lib.hid (HS7.out.bx.below b8 (Nat.le_refl _))
  have HG8 := Lib.hid (HS7.out.gt.below b8 (Nat.le_refl _))
  clear b8 y0 y1 y2 y3 y4 y5
  cases vb
  · have HN : Hid (R = none) := by show _ = _; rw [HRC.out]; rfl
    obtain ⟨z0, z1, z2, z3, z4, z5, zun⟩ := HZ8.out
    have zu0 := zun 0; have zu1 := zun 1; have zu2 := zun 2; have zu3 := zun 3; have zu4 := zun 4; have zu5 := zun 5
    have HBq := Lib.hid (HB8.out)
    clear zun
    go_wp2_with fail
    have HFz := put6 w8 (C + 1) (.int .i64 0) (.int .i64 0) (.slice none 0 0) (.int .u64 0) (.int .i64 0) (.slice none 0 0)
    have HBf := HBq.out.trans (HFz.below (B := C) (fun j e => by omega) (by have h1 := HBq.out.size; have h2 := HC.out; omega))
    replace HBf := HBf.mono (show w.heap.size ≤ C by have h2 := HC.out; omega)
    exact bodyPost_ret (v := .tuple #[.agg #[.int .i64 0, .int .i64 0, .slice none 0 0, .int .u64 0, .int .i64 0, .slice none 0 0], .int .i64 6]) (by simp [results, Tryd.results9, go_sem, z0, z1, z2, z3, z4, z5]) rfl (rd_none HN.out rfl HBf)
  have HRD : Hid (R = some y.r) := by show _ = _; rw [HRC.out]; rfl
  obtain ⟨y0, y1, y2, y3, y4, y5, _⟩ := HX8.out
  obtain ⟨z0, z1, z2, z3, z4, z5, zun⟩ := HZ8.out
  have zu0 := zun 0; have zu1 := zun 1; have zu2 := zun 2; have zu3 := zun 3; have zu4 := zun 4; have zu5 := zun 5
  clear zun
  go_wp2_with fail
  have HFz := put6 w8 (C + 1) (.int .i64 y.op) (.int .i64 y.err) (.slice y.IA y.items.length y.ik) (.int .u64 (y.version : Int)) (.int .i64 y.count) (.slice y.NA y.numbers.length y.nk)
  have hhs := HHS.out
  have HGF := HG8.out.only HFz (fun j hj _ e => by omega)
  have HBf := HB8.out.trans (HFz.below (B := C) (fun j e => by omega) (by have h1 := HB8.out.size; have h2 := HC.out; omega))
  replace HBf := HBf.mono (show w.heap.size ≤ C by have h2 := HC.out; omega)
  exact bodyPost_ret (v := .tuple #[resV y, .int .i64 0]) (by unfold resV; simp [results, Tryd.results9, go_sem, z0, z1, z2, z3, z4, z5]) rfl ⟨y, by rw [HRD.out]; rfl, HGF.mono (by have h2 := HC.out; omega), (fun q e => by rw [HRD.out] at e; injection e), (fun e => by rw [HRD.out] at e; cases e), HBf⟩
end Go.Proofs.YthlfahblnpijaaaDoor.Sy
