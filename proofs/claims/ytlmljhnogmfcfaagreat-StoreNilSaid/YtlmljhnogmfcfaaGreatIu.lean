/- Proves what the store's All is: an iterator over copies of the entries, in the order of use, each of which shares no memory. Conditions: as each theorem names them. -/
import Derived.Test.YtlmljhnogmfcfaaGreatIo
import Derived.Test.YtlmljhnogmfcfaaGreatIp
namespace Go.Proofs.YtlmljhnogmfcfaaGreat.Iu
open Go.RowKit Go.Shelf Ap Mi Nw Rg Ea Eb Ec Ed Ee El Ia Ib Ic Ik Ie If Ig Uc Io Il Ep
attribute [local go_sem] Oper.semAt_some

theorem grown_of {w w' : World} (h : Below w.heap.size w w') : w.grownBy w' none := ⟨h.os, h.tape, h.output, h.size, fun k hk _ => h.block k hk⟩
/-- What a round of a loop over the store keeps: the blocks of G. -/
def Kq (G : Nat → Prop) (W W' : World) : Prop := Only (fun j => ¬ G j) W W'
theorem Kq.trans {G : Nat → Prop} {A B C : World} (h : Kq G A B) (k : Kq G B C) : Kq G A C := Only.trans h (Only.mono k fun _ _ hf => Or.inl hf)
theorem Kq.put {G : Nat → Prop} {n0 B : Nat} (hG : ∀ j, G j → j < n0) (hB : n0 ≤ B) (W : World) (l : Nat) (o' : Obj) (hl : B ≤ l) : Kq G W (W.putObj l o') :=
  Only.of_grown (grownBy_putObj' W l o') (fun k e => by cases e; intro hg; have := hG _ hg; omega)
/-- An entry that shares no memory, and was made just now. -/
def Nu (y : Em) (W0 W1 : World) : Prop := Below W0.heap.size W0 W1 ∧ OwE W0.heap.size W1 y
set_option maxRecDepth 100000 in
set_option maxHeartbeats 2000000 in
theorem iter_in {n : Nat} (hn : 1 ≤ n) {l Bs n0 : Nat} {G : Nat → Prop} {A : Option Addr} {L : List Em} {c : Nat} (hL : L.length ≤ 1048576) {J Jx : List Em → World → Prop} {W : World} (hJ : AbidesFrom W.heap.size J)
    (hY : ∀ pre y W0 W1, J pre W0 → Nu y W0 W1 → J pre W1 → pre.length < L.length → YieldAt Fence.wide (n - 1) Tryz.prog l #[emV y] W1 fun e W' =>
      (e = .returned (.bool true) ∧ J (pre ++ [y]) W' ∧ Kq G W1 W') ∨ (e = .returned (.bool false) ∧ Jx (pre ++ [y]) W' ∧ Kq G W1 W'))
    (hG : ∀ j, G j → j < n0) (gB : G Bs) (hBs : W.cell? ⟨Bs, 0, none⟩ = some (.slice A L.length c)) (hA : RL G W A c L) (h0 : J [] W) :
    CallsIn Fence.wide n Tryz.prog 60 #[.func (.yield l) #[] #[], .pointer (some ⟨Bs, 0, none⟩)] W fun e W' => (∃ v, e = .returned v) ∧ ((∃ ys, ys.map Em.e = L.map Em.e ∧ J ys W') ∨ (∃ pre, pre.map Em.e <+: L.map Em.e ∧ Jx pre W')) := by
  have hreach : (L.length : Int) ≤ 1048576 := by omega
  have HY := Lib.hid hY
  have HJ := Lib.hid hJ
  clear hY hJ
  refine callsIn_of_wp Tryz.func60 rfl trivial ?_ rfl
  simp only [Tryz.ntmps60, List.size_toArray, List.length_cons, List.length_nil, Nat.reduceAdd, Nat.reduceSub, Array.replicate_succ, Array.replicate_zero, List.push_toArray, List.append_toArray, List.nil_append, List.cons_append]
  have hB0 := hG _ gB
  gi_wp2
  gi_loopw [7] (fun i wr => ∃ (k : Nat) (ys : List Em), k ≤ L.length ∧ i = .int .i64 k ∧ ys.map Em.e = (L.take k).map Em.e ∧ J ys wr ∧ RL G wr A c L ∧ W.heap.size ≤ wr.heap.size) (fun i _ => L.length - (intOf i).toNat)
  case atStart => exact ⟨0, [], Nat.zero_le _, rfl, rfl, h0, hA, Nat.le_refl _⟩
  case round =>
    obtain ⟨k, ys, hk, rfl, hys, hJs, hRL, hsz⟩ := hrel
    have HRL := Lib.hid hRL
    have HJS := Lib.hid hJs
    have HYS := Lib.hid hys
    by_cases hlt : k < L.length
    · obtain ⟨b, o, hA1, lb, e0, e1, e2, e3, e4, e5⟩ := rs6_at HRL.out.r hlt
      obtain ⟨x, hx⟩ : ∃ x, x = L[k] := ⟨_, rfl⟩
      rw [← hx] at e0 e1 e2 e3 e4 e5
      have HX : Hid (RE G wr x) := by show RE G wr x; rw [hx]; exact HRL.out.e _ (List.getElem_mem hlt)
      have HTK : Hid ((L.take (k + 1)).map Em.e = (L.take k).map Em.e ++ [x.e]) := by show _ = _; rw [hx, List.take_succ_eq_append_getElem hlt, List.map_append]; rfl
      subst hA1
      have i1 : (k : Int) < (L.length : Int) := by omega
      obtain ⟨v0, hv0⟩ : ∃ v0, v0 = wr.alloc (.cells (emA x) 42) := ⟨_, rfl⟩
      have HB0 : Hid (Below wr.heap.size wr v0) := by show Below _ _ _; rw [hv0]; exact bnew _ _
      have HK0 : Hid (Blk v0 wr.heap.size (emA x) 42) := by show Blk _ _ _ _; rw [hv0]; exact Blk.new wr _ _
      have HCP := Lib.hid (copied_any (G := G) x v0 (fun v hb => (HX.out.below HB0.out (Nat.le_refl _)).below hb (Nat.le_refl _)))
      unfold emA at hv0
      clear hx hRL hJs hys
      gi_wp2_with fail
      rw [← hv0]
      clear hv0
      refine ⟨trivial, (callsIn_wide.2 HCP.out).mono ?_⟩
      rintro _ w3 ⟨y, hye, rfl, how, hb3⟩
      have hz0 := HB0.out.size
      have hz3 := hb3.size
      have hb13 : Below wr.heap.size wr w3 := HB0.out.trans (hb3.mono hz0)
      have hRL3 : RL G w3 (some ⟨b, o, none⟩) c L := HRL.out.below hb13 (Nat.le_refl _)
      have hJ3 : J ys w3 := HJ.out _ _ _ none HJS.out (grown_of hb13) (fun r e => by cases e)
      have hOw : Nu y wr w3 := ⟨hb13, how.base hz0⟩
      have hlen : ys.length < L.length := by have h := congrArg List.length HYS.out; rw [List.length_map, List.length_map, List.length_take] at h; omega
      obtain ⟨fn, tmps, assign, body, hy, hR⟩ := HY.out _ y wr w3 HJS.out hOw hJ3 hlen
      have HR := Lib.hid hR
      have HRL3 := Lib.hid hRL3
      have HYE := Lib.hid hye
      have hzz : W.heap.size ≤ w3.heap.size := by omega
      clear e0 e1 e2 e3 e4 e5 hR hRL3 hJ3 hOw how hye hb3 hb13
      gi_wp2
      refine HR.out.mono ?_
      rintro e W3 (⟨rfl, hJ4, hk4⟩ | ⟨rfl, hJx4, hk4⟩)
      · have HJ4 := Lib.hid hJ4
        have HK4 := Lib.hid hk4
        clear hJ4 hk4
        gi_wp2
        go_roundw
        case rel => exact ⟨k + 1, ys ++ [y], by omega, by simp, by rw [List.map_append, HYS.out, HTK.out, List.map_cons, List.map_nil, HYE.out], HJ4.out, HRL3.out.only HK4.out (fun j hj => hj), Nat.le_trans hzz HK4.out.size⟩
        case measure => simp [intOf]; omega
      · have HJ4 := Lib.hid hJx4
        clear hJx4 hk4
        gi_wp2
        refine bodyPost_ret (results_none rfl _ _ _) rfl ?_
        exact ⟨⟨_, rfl⟩, .inr ⟨ys ++ [y], ⟨(L.drop (k + 1)).map Em.e, by rw [List.map_append, HYS.out, List.map_cons, List.map_nil, HYE.out, ← HTK.out, ← List.map_append, List.take_append_drop]⟩, HJ4.out⟩⟩
    · obtain rfl : k = L.length := by omega
      clear hRL hJs hys
      gi_wp2
      go_end0
      exact ⟨⟨_, rfl⟩, .inl ⟨ys, by rw [HYS.out, List.take_length], HJS.out⟩⟩
/-- What All leaves: an iterator's function and its box, which holds the list of the entries. -/
def iterPost (F : Nat → Prop) (w : World) (L : List En) : Ending → World → Prop := fun q w' => ∃ Bs A l c, q = .returned (.func (.func 60) #[] #[.pointer (some ⟨Bs, 0, none⟩)]) ∧ w.heap.size ≤ Bs ∧ Bs < w'.heap.size ∧
  w'.cell? ⟨Bs, 0, none⟩ = some (.slice A l.length c) ∧ l.map Em.e = L ∧ RL (fun j => j < w'.heap.size ∧ (w.heap.size ≤ j ∨ F j)) w' A c l ∧ Below w.heap.size w w'
set_option maxRecDepth 100000 in
set_option maxHeartbeats 2000000 in
theorem all_any {F : Nat → Prop} {w : World} {g : Nat} {s : Sx} (h : St F w g s) : Calls Tryz.prog 18 #[.pointer (some ⟨g, 0, none⟩)] w (iterPost F w s.l) := by
  obtain ⟨p, ns, q, c, hB, hF⟩ := h.has
  obtain ⟨L, hL⟩ : ∃ L, L = kept c.E ns := ⟨_, rfl⟩
  have HLI : Hid (Calls Tryz.prog 59 #[.pointer (some ⟨g, 0, none⟩)] w (listPost w L)) := by rw [hL]; exact list_any hB
  have HE : Hid (L.map Em.e = s.l) := by show _ = _; rw [hL]; exact kept_e hB.rel
  have HR : Hid (∀ x ∈ L, RE (fun j => p j = 8 ∧ j < w.heap.size) w x) := fun x hx => by
    rw [hL] at hx
    obtain ⟨n, hn, rfl⟩ := List.mem_map.1 hx
    have hnl := hB.rel.lt n hn
    rw [List.getD_eq_getElem?_getD, List.getElem?_eq_getElem hnl]
    exact hB.lo.re _ (List.getElem_mem hnl)
  have HF := Lib.hid hF
  clear hB hF hL h
  go_enter Tryz.func18, Tryz.ntmps18
  go_wp2_with fail
  refine HLI.out.mono ?_
  rintro _ w1 ⟨A, n, rfl, hmi, hb⟩
  have HM := Lib.hid hmi
  have HB := Lib.hid hb
  clear hmi hb
  go_wp2_with fail
  refine bodyPost_ret (results_tmp rfl _ _ _) rfl ?_
  have b1 : Below w1.heap.size w1 (w1.alloc (Obj.cells #[Value.slice A L.length n] 30)) := bnew _ _
  have hz := HB.out.size
  refine ⟨w1.heap.size, A, L, n, rfl, hz, by simp, (Blk.new w1 _ _).cell 0, HE.out, ⟨(Rs.mine HM.out).below b1 (Nat.le_refl _), fun a ha => ?_, fun x hx => ?_⟩, HB.out.trans (b1.mono hz)⟩
  · have h1 := HM.out.base ha
    exact ⟨by simp; omega, Or.inl h1.1⟩
  · have h1 := ((HR.out x hx).below HB.out (Nat.le_refl _)).below b1 (Nat.le_refl _)
    exact h1.mono fun j hj => ⟨by simp; omega, Or.inr (HF.out j hj.2 (by rw [hj.1]; decide))⟩
set_option maxRecDepth 100000 in
/-- Of what the law's collect asks whether it is nil. -/
theorem eql_fn (gf : FuncId) (lb : Array Value) (w : World) : (binOp .eql 51 (.func (.func gf) #[] lb) .nilFunc).run Tryz.prog w = .ok (.bool false) w := by
  first
  | rfl
  | (simp [go_sem, Tryz.underlying51]; done)
/-- What stands in collect's loop: the list that it has made, of entries that share no memory. -/
structure Cv (n0 b3 : Nat) (G : Nat → Prop) (V : World) (pre : List Em) (W : World) : Prop where
  bx : ∃ A n, Blk W b3 #[.slice A pre.length n] 30 ∧ Mine n0 6 W A pre.length n (emL pre) ∧ (pre = [] → A = none) ∧ (∀ a, A = some a → ¬ RowsL pre a.block)
  ow : ∀ y ∈ pre, OwE n0 W y
  on : Kq G V W
theorem rows_cells {B : Nat} {w : World} {x : Em} (h : OwE B w x) {j : Nat} (hr : El.Rows x j) : B ≤ j ∧ ∃ cur e, w.heap[j]? = some (.cells cur e (0, 0)) := by
  rcases hr with ⟨a, ha, rfl⟩ | ⟨a, ha, rfl⟩
  · rcases h.v.2 with ⟨e, _⟩ | ⟨g, cap, cur, hv, hB, hg, _⟩
    · rw [ha] at e; cases e
    · rw [ha] at hv; injection hv with e1; injection e1 with e1; rw [e1]; exact ⟨hB, _, _, hg⟩
  · rcases h.t.2 with ⟨e, _⟩ | ⟨g, cap, cur, hv, hB, hg, _⟩
    · rw [ha] at e; cases e
    · rw [ha] at hv; injection hv with e1; injection e1 with e1; rw [e1]; exact ⟨hB, _, _, hg⟩
theorem ow_only {B : Nat} {w w' : World} {x : Em} (h : OwE B w x) {F : Nat → Prop} (ho : Only F w w') (hn : ∀ j, El.Rows x j → ¬ F j) : OwE B w' x :=
  ⟨h.f, own_keep h.v ho (fun j ej => hn j (Or.inl (by
    cases hA : x.A with
    | none => rw [hA] at ej; cases ej
    | some a => rw [hA] at ej; cases ej; exact ⟨a, rfl, rfl⟩))), own_keep h.t ho (fun j ej => hn j (Or.inr (by
    cases hA : x.B with
    | none => rw [hA] at ej; cases ej
    | some a => rw [hA] at ej; cases ej; exact ⟨a, rfl, rfl⟩)))⟩
theorem Cv.own {n0 b3 : Nat} {G : Nat → Prop} {V : World} (hb : b3 < n0) (hG : ∀ j, G j → j < n0) : OwnFrom n0 (fun (pre : List Em) W => Cv n0 b3 G V pre W) := fun pre X Y row hs hg hr => by
  obtain ⟨⟨A, n, h1, h2, h3, h5⟩, h4, h6⟩ := hs
  have ho : Only (fun j => row = some j) X Y := Only.of_grown hg (fun k e => e)
  refine ⟨⟨A, n, h1.only ho (fun e => by have := (hr _ e).1; omega), h2.only ho (fun a ha e => ?_), h3, h5⟩, fun y hy => ow_only (h4 y hy) ho (fun j hj e => ?_), Kq.trans h6 (ho.mono fun j _ e hgj => by have h7 := hG j hgj; have h8 := (hr _ e).1; omega)⟩
  · obtain ⟨_, o, ho1, ho2⟩ := hr _ e
    have hp : 0 < pre.length := by
      rcases Nat.eq_zero_or_pos pre.length with h | h
      · rw [h3 (List.eq_nil_of_length_eq_zero h)] at ha; cases ha
      · exact h
    have hl : 0 < (emL pre).length := by rw [emL_len]; omega
    obtain ⟨g, ofs, e1, _, _⟩ := mine_place h2 hl
    rw [e1] at h2 ha
    injection ha with ha
    subst ha
    have := cells_of (mine_cell h2 (List.getElem?_eq_getElem hl)).1 ho1
    rw [ho2] at this; cases this
  · obtain ⟨_, cur, e0, hc⟩ := rows_cells (h4 y hy) hj
    obtain ⟨_, o, ho1, ho2⟩ := hr _ e
    rw [hc] at ho1; cases ho1; cases ho2
/-- append in a round of a loop over an iterator. -/
theorem listIn_mine {ops rest : _} {o : Oper} {a : Act} {Q : Exit → Act → World → Prop} {l n : Nat} (hwd : Region.wanted o (yielded ops a.tmps) = true) (s x : Operand) {t e : TypeId} {z : Value} {sz : Nat} (hel : Elm Tryz.prog t e z sz) (tx : TypeId)
    (ho : o.op = .call { callee := .builtin .append, args := #[s, x], argTypes := #[t, tx] })
    {B : Nat} {w : World} {A : Option Addr} {m c : Nat} {xs : List Value} (hs : a.eval s = .slice A m c) (h : Mine B sz w A m c xs)
    (v : Value) (hx : a.eval x = v) (k : Nat) (news : List Value) (hsrc : Src Tryz.prog sz tx v k news w) (hn : m ≤ 1000000000) (hm : k ≤ 1000000000) (hB : B ≤ w.heap.size)
    (hK : ∀ A' c' w', Mine B sz w' A' (m + k) c' (xs ++ news) → w.grownBy w' (A.map (·.block)) → (A' = A ∨ ∀ a, A' = some a → w.heap.size ≤ a.block) → wpListIn (Fence.wide.inRound l) n Tryz.prog ops Q rest (a.put o.dst (.slice A' (m + k) c')) w') :
    wpListIn (Fence.wide.inRound l) n Tryz.prog ops Q (o :: rest) a w := by
  unfold wpListIn
  rw [if_pos hwd]
  exact opIn_of (fun c e => by rw [ho] at e; cases e) (fun _ _ h => h) (wp_mine s x hel tx ho hs h v hx k news hsrc hn hm hB hK)
set_option maxRecDepth 100000 in
set_option maxHeartbeats 2000000 in
theorem collect_gen {F : Nat → Prop} {w : World} {qv : Value} {L0 : List En} (hall : ∀ v, Below w.heap.size w v → Calls Tryz.prog 18 #[qv] v (iterPost (fun j => F j ∧ j < w.heap.size) v L0)) (hl : L0.length ≤ 1000) : Calls Tryz.prog 34 #[qv] w (allPost w L0) := by
  obtain ⟨v0, hv0⟩ : ∃ v0, v0 = w.alloc (.cells #[.slice none 0 0] 30) := ⟨_, rfl⟩
  have hb0 : Below w.heap.size w v0 := by rw [hv0]; exact bnew _ _
  have HB0 := Lib.hid hb0
  have z0 : v0.heap.size = w.heap.size + 1 := by rw [hv0]; simp
  have HK0 : Hid (Blk v0 w.heap.size #[.slice none 0 0] 30) := by show Blk _ _ _ _; rw [hv0]; exact Blk.new w _ _
  have HALL := Lib.hid (hall v0 hb0)
  have HZ0 := Lib.hid z0
  clear hall hb0 z0
  refine (callsIn_wide (n := 20)).1 ?_
  have hro : Fence.wide.round = none := rfl
  have h20 : 1 ≤ 20 := by omega
  have heq := fun gf lb w => eql_fn gf lb w
  refine callsIn_of_wp_marks Tryz.func34 rfl trivial ?_ rfl
  simp only [Tryz.ntmps34, List.size_toArray, List.length_cons, List.length_nil, Nat.reduceAdd, Nat.reduceSub, Array.replicate_succ, Array.replicate_zero, List.push_toArray, List.append_toArray, List.nil_append, List.cons_append]
  gi_wp2_with fail
  rw [← hv0]
  clear hv0
  refine ⟨trivial, (callsIn_wide.2 HALL.out).mono ?_⟩
  rintro _ v1 ⟨Bs, A, L, c, rfl, hs1, hs2, hBs, hLe, hRL, hb1⟩
  have HBS := Lib.hid hBs
  have HLE := Lib.hid hLe
  have HRL := Lib.hid hRL
  have HB1 := Lib.hid hb1
  have HLN : Hid (L.length ≤ 1000) := by show L.length ≤ 1000; rw [← hLe, List.length_map] at hl; exact hl
  clear hBs hLe hRL hb1
  gi_wp2_with fail
  obtain ⟨G, hG⟩ : ∃ G : Nat → Prop, G = fun j => j < v1.heap.size ∧ j ≠ w.heap.size := ⟨_, rfl⟩
  have hGn : ∀ j, G j → j < v1.heap.size := fun j hj => by rw [hG] at hj; exact hj.1
  have hGB : G Bs := by rw [hG]; have h1 := HZ0.out; exact ⟨hs2, by omega⟩
  have hRG : RL G v1 A c L := HRL.out.mono fun j hj => by rw [hG]; have h1 := HZ0.out; exact ⟨hj.1, by rcases hj.2 with h | h; omega; omega⟩
  have HGG : Hid (∀ j, ¬ G j → j < v1.heap.size → j = w.heap.size) := fun j hj hl => by rw [hG] at hj; rcases Nat.decEq j w.heap.size with h | h; exact absurd ⟨hl, h⟩ hj; exact h
  have HGW : Hid (¬ G w.heap.size) := by show ¬ _; rw [hG]; exact fun h => h.2 rfl
  have hKv : Blk v1 w.heap.size #[.slice none 0 0] 30 := HK0.out.below HB1.out (by have := HZ0.out; omega)
  have hbs : w.heap.size < v1.heap.size := by have := HZ0.out; omega
  have HSEQ : Hid (SeqP Fence.wide 19 Tryz.prog 60 #[.pointer (some ⟨Bs, 0, none⟩)] (fun y : Em => #[emV y]) (Kq G) Nu (fun ys => ys.map Em.e = L.map Em.e) (fun _ => True) L.length v1) := by
    intro l J Jx W hW hJ hJx hY h0
    have k1 : Only (fun _ => False) v1 W := Only.of_below hW (Nat.le_refl _) _
    refine (iter_in (n := 19) (by omega) (by have := HLN.out; omega) hJ hY (fun j hj => hGn j hj) hGB ((k1.cell (a := ⟨Bs, 0, none⟩) hs2 (fun hf => hf)).trans HBS.out) (hRG.only k1 (fun _ hf => hf.elim)) h0).mono ?_
    rintro e W' ⟨h1, h2 | ⟨pre, _, h2⟩⟩
    · exact ⟨h1, Or.inl h2⟩
    · exact ⟨h1, Or.inr ⟨pre, trivial, h2⟩⟩
  have HGN := Lib.hid hGn
  clear hG hRG hGn hGB heq
  refine range_p hro h20 (gf := 60) (lb := #[.pointer (some ⟨Bs, 0, none⟩)]) rfl trivial (enters_of Tryz.func60 (by kernel_rfl) rfl) HSEQ.out (fun h k => Kq.trans h k) (fun W l _ o' hl _ _ _ => Kq.put HGN.out (Nat.le_refl _) W l o' hl) (Below.refl _ _) (fun _ => rfl)
    (fun pre W => Cv v1.heap.size w.heap.size G v1 pre W) (fun _ _ _ => False) (Cv.own hbs HGN.out) (fun _ _ _ _ _ hs _ _ => hs)
    ⟨⟨none, 0, hKv, Mine.nil _ _ _, (fun _ => rfl), fun _ e => by cases e⟩, (fun _ h => by cases h), Only.refl _ _⟩
    (fun pre x a' W => ∃ b5 : Nat, a' = { tmps := #[qv, undef, .slice none 0 0, .pointer (some ⟨w.heap.size, 0, none⟩), .func (.func 60) #[] #[.pointer (some ⟨Bs, 0, none⟩)], .pointer (some ⟨b5, 0, none⟩), qv, .func (.func 60) #[] #[.pointer (some ⟨Bs, 0, none⟩)], .func (.func 60) #[] #[.pointer (some ⟨Bs, 0, none⟩)], .bool false, undef, undef, .func (.func 60) #[] #[.pointer (some ⟨Bs, 0, none⟩)], emV x, undef, undef, undef, undef, undef, undef, undef, undef], defers := [] } ∧
      v1.heap.size ≤ b5 ∧ Blk W b5 (emA x) 42 ∧ Cv v1.heap.size w.heap.size G v1 pre W ∧ OwE v1.heap.size W x ∧ ∃ A n, W.cell? ⟨w.heap.size, 0, none⟩ = some (.slice A pre.length n) ∧ ∀ a, A = some a → ¬ El.Rows x a.block ∧ a.block ≠ b5) ?ax ?assign ?body ?done ?stop
  case ax =>
    rintro pre x a' _ X Y row ⟨b5, e1, e2, e3, e4, e5, A', n, e6, e7⟩ hg hr
    have ho : Only (fun j => row = some j) X Y := Only.of_grown hg (fun k e => e)
    refine ⟨b5, e1, e2, e3.only ho (fun e => ?_), Cv.own hbs HGN.out _ _ _ _ e4 hg hr, ow_only e5 ho (fun j hj e => ?_), A', n, ?_, e7⟩
    · obtain ⟨_, o, ho1, ho2⟩ := hr _ e
      unfold Blk at e3
      rw [e3] at ho1; cases ho1; cases ho2
    · obtain ⟨_, cur, e0, hc⟩ := rows_cells e5 hj
      obtain ⟨_, o, ho1, ho2⟩ := hr _ e
      rw [hc] at ho1; cases ho1; cases ho2
    · rw [← e6]
      obtain ⟨_, _, k1, _⟩ := e4.bx
      exact ho.cell k1.lt (fun e => by have h1 := (hr _ e).1; exact absurd hbs (by simpa using h1))
  case assign =>
    intro l pre x W0 W K hc0 hnu hc1 hlt hK
    obtain ⟨v, hv⟩ : ∃ v, v = W.alloc (.cells (emA x) 42) := ⟨_, rfl⟩
    have HK := Lib.hid hK
    have HC0 := Lib.hid hc0
    have HNU := Lib.hid hnu
    have HC1 := Lib.hid hc1
    unfold emA at hv
    clear hK hc0 hnu hc1 hlt
    unfold emV
    gi_wp2_with fail
    rw [← hv]
    obtain ⟨A0, n0, k1, k2, _, _⟩ := HC0.out.bx
    have hz := HNU.out.1.size
    have hbv : Below W.heap.size W v := by rw [hv]; exact bnew _ _
    have hzv : v.heap.size = W.heap.size + 1 := by rw [hv]; simp
    have hv1 : v1.heap.size ≤ W.heap.size := Nat.le_trans HC0.out.on.size hz
    refine HK.out _ _ ⟨hbv.size, fun k o _ hk _ => (hbv.block k (Array.getElem?_eq_some_iff.1 hk).1).trans hk⟩ (Only.of_below hbv (Nat.le_refl _) _) ⟨W.heap.size, rfl, hv1, ?_, ?_, (HNU.out.2.base (Nat.le_trans HC0.out.on.size (Nat.le_refl _))).below hbv, A0, n0, ?_, fun a ha => ⟨fun hr => ?_, ?_⟩⟩
    · rw [hv]; exact Blk.new W _ _
    · obtain ⟨⟨A1, n1, j1, j2, j3, j4⟩, j5, j6⟩ := HC1.out
      exact ⟨⟨A1, n1, j1.below hbv j1.lt, j2.below hbv (Nat.le_refl _), j3, j4⟩, fun y hy => (j5 y hy).below hbv, Kq.trans j6 (Only.of_below hbv (Nat.le_refl _) _)⟩
    · exact ((k1.below HNU.out.1 k1.lt).below hbv (Nat.lt_of_lt_of_le k1.lt hz)).cell 0
    · have h1 := (rows_cells HNU.out.2 hr).1
      have h2 := (k2.base ha).2.1
      omega
    · have h2 := (k2.base ha).2.1
      omega
  case body =>
    rintro l pre x a' W ⟨b5, rfl, hb5, hk5, hcv, hox, A0, m0, hcA, hdis⟩ hlt
    obtain ⟨⟨A1, m, HBX, HMI, HNI, HAP⟩, HOW, HON⟩ := hcv
    have hE : A0 = A1 ∧ m0 = m := by
      have h1 := HBX.cell 0
      rw [hcA] at h1
      simp at h1
      exact h1
    obtain ⟨rfl, rfl⟩ := hE
    have c0 := HBX.cell 0
    have lb3 := HBX.lt
    have H5 := Lib.hid hk5
    unfold emA at hk5
    obtain ⟨x0, x1, x2, x3, x4, x5, _⟩ := six hk5
    have l5 := hk5.lt
    have HBX := Lib.hid HBX; have HMI := Lib.hid HMI; have HNI := Lib.hid HNI; have HAP := Lib.hid HAP; have HOW := Lib.hid HOW; have HON := Lib.hid HON; have HOX := Lib.hid hox; have HDIS := Lib.hid hdis
    have hpl : pre.length ≤ 999 := by have := HLN.out; omega
    obtain ⟨v, hv⟩ : ∃ v, v = W.alloc (.cells (emA x) 42) := ⟨_, rfl⟩
    have hbv : Below W.heap.size W v := by rw [hv]; exact bnew _ _
    have hzv : Hid (v.heap.size = W.heap.size + 1) := by show _ = _; rw [hv]; simp
    have HBV := Lib.hid hbv
    have HSR : Hid (Src Tryz.prog 6 30 (.slice (some ⟨W.heap.size, 0, none⟩) 1 1) 1 (emC x) v) := by show Src _ _ _ _ _ _ _; rw [hv]; exact src_one W x
    have HMV := Lib.hid (HMI.out.below hbv (Nat.le_refl _))
    unfold emA at hv
    have HCA := Lib.hid hcA
    clear hk5 hcA hox hdis hbv hlt
    have HHV := Lib.hid hv
    have hlast : W.heap.size < v.heap.size := by have := hzv.out; omega
    clear hv
    gi_wp2_with (gi_at_builtin; rw [← HHV.out]; refine listIn_mine (by kernel_rfl) _ _ elE _ rfl rfl HMV.out _ rfl 1 _ HSR.out (by omega) (by omega) (Nat.le_trans HON.out.size HBV.out.size) ?_; intro A5 n5 w5 m5 g5 q5; have ho5 : Only (fun j => ∃ a, A0 = some a ∧ a.block = j) v w5 := Only.of_grown g5 (F := fun j => ∃ a, A0 = some a ∧ a.block = j) (fun k e => by rw [Option.map_eq_some_iff] at e; exact e); have HM5 := Lib.hid m5; have HO5 := Lib.hid ho5; have HQ5 := Lib.hid q5; have HA3 : Hid (∀ a, A0 = some a → a.block ≠ w.heap.size) := (fun a ha e => by have h1 := (HMI.out.base ha).1; omega); have HB5 : Hid (Blk w5 w.heap.size #[.slice A0 pre.length m0] 30) := (HBX.out.below HBV.out lb3).only ho5 (fun hf => by obtain ⟨a, ha, e⟩ := hf; exact HA3.out a ha e); have d5 : w5.cell? ⟨w.heap.size, 0, none⟩ = some (.slice A0 pre.length m0) := HB5.out.cell 0; have f5 : w5.frozen? ⟨w.heap.size, 0, none⟩ = false := HB5.out.frozen 0; have l5' := HB5.out.lt; clear m5 g5 q5 ho5 c0 x0 x1 x2 x3 x4 x5)
    have how : Only (fun j => j = w.heap.size) w5 (w5.setCell ⟨w.heap.size, 0, none⟩ (.slice A5 (pre.length + 1) n5)) := only_own (F := fun j => j = w.heap.size) rfl _
    have hall : Only (fun j => j = w.heap.size ∨ ∃ a, A0 = some a ∧ a.block = j) W (w5.setCell ⟨w.heap.size, 0, none⟩ (.slice A5 (pre.length + 1) n5)) :=
      (Only.of_below HBV.out (Nat.le_refl _) _).trans ((((HO5.out.mono fun _ _ e => Or.inr e).trans (how.mono fun _ _ e => Or.inl (Or.inl e)))).mono fun _ _ e => Or.inl e)
    have hrow : ∀ y ∈ pre ++ [x], OwE v1.heap.size W y ∧ ∀ a, A0 = some a → ¬ El.Rows y a.block := fun y hy => by
      rcases List.mem_append.1 hy with hy | hy
      · exact ⟨HOW.out y hy, fun a ha hr => HAP.out a ha ⟨y, hy, hr⟩⟩
      · rw [List.mem_singleton.1 hy]; exact ⟨HOX.out, fun a ha => (HDIS.out a ha).1⟩
    have hA5 : ∀ a, A5 = some a → a.block ≠ w.heap.size := fun a ha e => by
      rcases HQ5.out with h | h
      · rw [h] at ha; exact HA3.out a ha e
      · have h1 := h a ha; omega
    have hkq : Kq G W (w5.setCell ⟨w.heap.size, 0, none⟩ (.slice A5 (pre.length + 1) n5)) := hall.mono fun j _ hf hj => by
      rcases hf with rfl | ⟨a, ha, rfl⟩
      · exact HGW.out hj
      · have h1 := HGN.out _ hj; have h2 := (HMI.out.base ha).1; omega
    refine ⟨⟨hall.size, fun k ob hk h0 hc => ?_⟩, hkq, ⟨A5, n5, ?_, ?_, (fun h => by simp at h), fun a ha hr => ?_⟩, fun y hy => ow_only (hrow y hy).1 hall (fun j hj hf => ?_), Kq.trans HON.out hkq⟩
    · have hkl : k < W.heap.size := (Array.getElem?_eq_some_iff.1 h0).1
      rw [hall.block k hkl ?_]
      · exact h0
      · rintro (rfl | ⟨a, ha, rfl⟩)
        · omega
        · have hp : 0 < pre.length := by
            rcases Nat.eq_zero_or_pos pre.length with h | h
            · rw [HNI.out (List.eq_nil_of_length_eq_zero h)] at ha; cases ha
            · exact h
          have hl : 0 < (emL pre).length := by rw [emL_len]; omega
          have hM := HMI.out
          obtain ⟨g0, ofs, e1, _, _⟩ := mine_place hM hl
          rw [e1] at hM ha
          injection ha with ha
          subst ha
          have := cells_of (mine_cell hM (List.getElem?_eq_getElem hl)).1 h0
          rw [hc] at this; cases this
    · rw [List.length_append]; exact HB5.out.set 0 _
    · rw [List.length_append, emL_append, emL_one]; exact HM5.out.only how (fun a ha e => hA5 a ha e)
    · obtain ⟨y, hy, hj⟩ := hr
      rcases HQ5.out with h | h
      · rw [h] at ha; exact (hrow y hy).2 a ha hj
      · have h1 := h a ha
        obtain ⟨_, cur, e, hc⟩ := rows_cells (hrow y hy).1 hj
        have h2 := (Array.getElem?_eq_some_iff.1 hc).1
        omega
    · rcases hf with rfl | ⟨a, ha, rfl⟩
      · have h1 := (rows_cells (hrow y hy).1 hj).1; omega
      · exact (hrow y hy).2 a ha hj
  case done =>
    rintro D ys W hD hys ⟨⟨A1, m, hbx, hmi, hni, hap⟩, how, hon⟩ hK
    have hc : W.cell? ⟨w.heap.size, 0, none⟩ = some (.slice A1 ys.length m) := hbx.cell 0
    have hbw : Below w.heap.size w W := by
      have h1 : Below w.heap.size w v1 := HB0.out.trans (HB1.out.mono (by have := HZ0.out; omega))
      exact h1.trans (hon.below (fun j hj => by
        rcases Nat.lt_or_ge j v1.heap.size with h2 | h2
        · exact Nat.le_of_eq (HGG.out j hj h2).symm
        · omega) (Nat.le_of_lt hbs))
    have hD' : D < W.heap.size := (Array.getElem?_eq_some_iff.1 hK).1
    have ho : Only (fun j => j = D) W (W.putObj D (.deferred none)) := Only.of_grown (grownBy_putObj' W D _) (fun k e => by cases e; rfl)
    have hpp : ∀ y ∈ ys, OwE w.heap.size (W.putObj D (.deferred none)) y := fun y hy => (ow_only (how y hy) ho (fun j hj e => by
      obtain ⟨_, cur, e0, hc0⟩ := rows_cells (how y hy) hj
      rw [e, hK] at hc0; cases hc0)).base (Nat.le_of_lt hbs)
    have HF : Hid (allPost w L0 (.returned (.slice A1 ys.length m)) (W.putObj D (.deferred none))) := by
      refine ⟨A1, m, ys, rfl, by rw [hys]; exact HLE.out, ⟨⟨Rs.mine ((hmi.mono (Nat.le_of_lt hbs)).only ho (fun a ha e => ?_)), fun a ha => Nat.le_trans (Nat.le_of_lt hbs) (hmi.base ha).1, fun y hy => (hpp y hy).re⟩, fun y hy => El.OwE.wr (hpp y hy), hap⟩, hbw.trans (ho.below (fun j hj => by rw [hj]; omega) hbw.size)⟩
      rcases Nat.eq_zero_or_pos ys.length with hl | hl
      · rw [hni (List.eq_nil_of_length_eq_zero hl)] at ha; cases ha
      · have hl : 0 < (emL ys).length := by rw [emL_len]; omega
        obtain ⟨g0, ofs, e1, _, _⟩ := mine_place hmi hl
        have hM := hmi
        rw [e1] at hM ha
        injection ha with ha
        subst ha
        have := cells_of (mine_cell hM (List.getElem?_eq_getElem hl)).1 (by have e' : g0 = D := e; rw [e']; exact hK)
        cases this
    clear hbx hmi hon how hap hni hpp ho
    gi_wp2_with fail
    refine ⟨by simp, .inl ⟨_, _, rfl, run_takeDeferred hK, ?_⟩⟩
    refine ⟨_, results_tmp rfl _ _ _, ?_⟩
    exact HF.out
  case stop =>
    rintro D c pre W _ _ h _
    exact h.elim
theorem collect_any {F : Nat → Prop} {w : World} {g : Nat} {s : Sx} (h : St F w g s) (hl : s.l.length ≤ 1000) : Calls Tryz.prog 34 #[.pointer (some ⟨g, 0, none⟩)] w (allPost w s.l) :=
  collect_gen (fun _ hb => all_any (h.tight.below hb)) hl
end Go.Proofs.YtlmljhnogmfcfaaGreat.Iu
