/- Proves what the store's list and Keys return: the entries, and their keys, in the order of use. Conditions: as each theorem names them. -/
import Derived.Test.YtlmljhnogmfcfaaGreatRg
import Derived.Test.YtlmljhnogmfcfaaGreatIp
namespace Go.Proofs.YtlmljhnogmfcfaaGreat.Il
open Go.RowKit Go.Shelf Ap Mi Nw Rg Ea Eb Ec Ed Ee El Ia Ib Ic Ik Ie If Ig Uc
attribute [local go_sem] Oper.semAt_some

theorem rowsIn_of {n : Nat} {P : Program} {row : String} {args : Array Value} {w : World} {R : Value → World → Prop} (h : Rows P row args w R) : RowsIn Fence.wide n P row args w R :=
 fun c cs _ => let ⟨v, w', r, s⟩ := h c cs; ⟨v, w', r, stepsIn_wide.2 s⟩
theorem opIn_of {P : Program} {Q : Exit → Act → World → Prop} {l n : Nat} {o : Oper} {a : Act} {w : World} {K K' : Act → World → Prop} (hd : ∀ c, o.op ≠ .defer c) (hK : ∀ a w, K a w → K' a w) (h : o.wp P a w K Q) : o.wpIn (Fence.wide.inRound l) n P a w K' Q := by
 refine ⟨fun _ _ => trivial, ?_⟩
 rw [Oper.semAt_eq _ _ _ hd]
 unfold Oper.wp at h
 generalize (execOp a.eval o).run P w = r at h
 cases r with
 | ok x w' =>
  cases x <;> simp only [Oper.upon, Oper.uponIn] at h ⊢
  case value u => exact hK _ _ h
  case skip => exact hK _ _ h
  case defer d => exact hK _ _ h
  case enter f args =>
   refine ⟨(fun hh => by cases hh), CallsIn.inRound l (callsIn_wide.2 (Calls.mono h fun e w'' he => ?_))⟩
   cases e with
   | returned v => exact hK _ _ he
   | panicked c => exact he
   | outgrown => exact he
  case row row args => exact ⟨(fun hh => by cases hh), fun c cs hr => (rowsIn_of (n := n - 1) (Rows.mono h fun _ _ he => hK _ _ he)) c cs hr⟩
 | halt x w' =>
  cases x <;> simp only [Oper.upon, Oper.uponIn] at h ⊢
  case panic u => exact h
theorem opsIn_of {P : Program} {ops : Array Oper} {Q : Exit → Act → World → Prop} {l n : Nat} (hL : ¬ LetsOut Q) (hd : ∀ (i : Nat) o, ops[i]? = some o → ∀ c, o.op ≠ .defer c) : ∀ (is : List Nat) (a : Act) (w : World), wpOps P ops Q is a w → wpOpsIn (Fence.wide.inRound l) n P ops Q is a w
 | [], _, _, h => h
 | i :: rest, a, w, h => by
  unfold wpOps at h
  unfold wpOpsIn
  cases hi : ops[i]? with
  | none => rw [hi] at h; exact opsIn_of hL hd rest a w h
  | some o =>
   rw [hi] at h
   simp only at h ⊢
   split
   ·rename_i hw
    rw [if_pos hw] at h
    rcases h with h | ⟨_, h⟩
    ·exact opIn_of (hd i o hi) (fun a w h => opsIn_of hL hd rest a w h) h
    ·exact absurd h hL
   ·rename_i hw
    rw [if_neg hw] at h
    exact ⟨fun _ _ => trivial, opsIn_of hL hd rest _ w h⟩
def isDefer : Op → Bool
 | .defer _ => true
 | _ => false
theorem wpIn_region_G {P : Program} {ops : Array Oper} {Q : Exit → Act → World → Prop} {l n id : Nat} {a : Act} {w : World} (k : Nat) (S : World → Prop) (hm : P.follows .mixedOrders = true) (hL : ¬ LetsOut Q) (hd : (ops.all fun o => !isDefer o.op) = true)
  (h : wpAnyG P .any ops Q S k ops.size (Array.replicate ops.size false) a w.drew) : (Code.region id ops true).wpIn (Fence.wide.inRound l) n P Q a w :=
 wpIn_region_draw fun t => by
  simp only [Region.schedule, hm, Bool.true_or, if_true]
  refine opsIn_of hL (fun i o hi c e => ?_) _ _ _ (wpAny_sound ops.size t _ a _ h.plain)
  rw [Array.all_eq_true] at hd
  obtain ⟨hil, ho⟩ := Array.getElem?_eq_some_iff.1 hi
  have := hd i hil
  rw [ho, e] at this
  cases this
def kept (E : List Em) (ns : List Nat) : List Em := ns.map fun n => E.getD n zeroM
theorem kept_e {hs : Nat → Prop} {cx cn : Int} {s : Sx} {ns : List Nat} {E : List Em} {a : Nm.St} {t : List (Tm.Cell Ta.Key)} {h : List Ya.Td} {k : Ja.Ac} (r : Rel hs cx cn s ns E a t h k) : (kept E ns).map Em.e = s.l := by
 unfold kept; rw [List.map_map, r.l]; rfl
theorem kept_len (E : List Em) (ns : List Nat) : (kept E ns).length = ns.length := by unfold kept; simp
abbrev Mn (ns : List Nat) := {n : Nat // n ∈ ns}
def keptA (E : List Em) {ns : List Nat} (pre : List (Mn ns)) : List Em := pre.map fun x => E.getD x.1 zeroM
theorem keptA_all (E : List Em) (ns : List Nat) : keptA E ns.attach = kept E ns := by
 unfold keptA kept
 have h := congrArg (List.map fun n => E.getD n zeroM) (List.attach_map_subtype_val ns)
 rw [List.map_map] at h
 exact h
theorem cells_of {w : World} {b o : Nat} {v : Value} (h : w.cell? ⟨b, o, none⟩ = some v) {ob : Obj} (hb : w.heap[b]? = some ob) : ob.isCells = true := by
 cases ob <;> simp_all [World.cell?, Obj.isCells]
structure Lv (w2 : World) (b : Nat) (E : List Em) {ns : List Nat} (pre : List (Mn ns)) (W : World) : Prop where
 bx : ∃ A n, Blk W b #[.slice A pre.length n] 30 ∧ Mine w2.heap.size 6 W A pre.length n (emL (keptA E pre)) ∧ (pre = [] → A = none)
 on : Only (fun j => j = b ∨ w2.heap.size ≤ j) w2 W
theorem Lv.own {w2 : World} {b : Nat} {E : List Em} {ns : List Nat} (hb : b < w2.heap.size) : OwnFrom w2.heap.size (fun (pre : List (Mn ns)) W => Lv w2 b E pre W) := fun pre X Y row hs hg hr => by
 obtain ⟨⟨A, n, h1, h2, h3⟩, h4⟩ := hs
 have ho : Only (fun j => row = some j) X Y := Only.of_grown hg (fun k e => e)
 refine ⟨⟨A, n, h1.only ho (fun e => by have := (hr _ e).1; omega), h2.only ho (fun a ha e => ?_), h3⟩, h4.trans (ho.mono fun j _ e => Or.inl (Or.inr (hr _ e).1))⟩
 obtain ⟨_, o, ho1, ho2⟩ := hr _ e
 have hp : 0 < pre.length := by
  rcases Nat.eq_zero_or_pos pre.length with h | h
  ·rw [h3 (List.eq_nil_of_length_eq_zero h)] at ha; cases ha
  ·exact h
 have hl : 0 < (emL (keptA E pre)).length := by rw [emL_len]; unfold keptA; rw [List.length_map]; omega
 obtain ⟨g, ofs, e1, _, _⟩ := mine_place h2 hl
 rw [e1] at h2 ha
 injection ha with ha
 subst ha
 have := cells_of (mine_cell h2 (List.getElem?_eq_getElem hl)).1 ho1
 rw [ho2] at this; cases this
def listPost (w : World) (l : List Em) : Ending → World → Prop := fun r w' => ∃ A n, r = .returned (.slice A l.length n) ∧ Mine w.heap.size 6 w' A l.length n (emL l) ∧ Below w.heap.size w w'
section
variable {hs : Nat → Prop} {cx cn : Int} {p : Nat → Nat} {w : World} {g : Nat} {s : Sx} {ns : List Nat} {q : Ptr} {c : Ct}
set_option maxRecDepth 100000 in
set_option maxHeartbeats 2000000 in
theorem list_any (h : Bt hs cx cn p w g s ns q c) :
  Calls Tryz.prog 59 #[.pointer (some ⟨g, 0, none⟩)] w (listPost w (kept c.E ns)) := by
 obtain ⟨v0, hv0⟩ : ∃ v0, v0 = w.alloc (.cells #[.pointer (some ⟨g, 0, none⟩)] 23) := ⟨_, rfl⟩
 obtain ⟨v1, hv1⟩ : ∃ v1, v1 = v0.alloc (.cells #[.slice none 0 0] 30) := ⟨_, rfl⟩
 have hb0 : Below w.heap.size w v0 := by rw [hv0]; exact bnew _ _
 have hb1 : Below v0.heap.size v0 v1 := by rw [hv1]; exact bnew _ _
 have z0 : w.heap.size < v0.heap.size := by rw [hv0]; simp
 have z1 : v0.heap.size < v1.heap.size := by rw [hv1]; simp
 have HL0 := Lib.hid (h.lo.below hb0 0)
 have HL1 := Lib.hid (HL0.out.below hb1 0)
 have HU := Lib.hid (Ik.usable_any HL0.out)
 have HALL := Lib.hid (Ue.all_any HL1.out.rc)
 rw [h.r] at HALL
 have hS0 : Hid (Blk v0 w.heap.size #[.pointer (some ⟨g, 0, none⟩)] 23) := by show Blk _ _ _ _; rw [hv0]; exact Blk.new _ _ _
 have HS1 := Lib.hid (hS0.out.below hb1 z0)
 have bO : Hid (Blk v1 v0.heap.size #[.slice none 0 0] 30) := by
  show Blk _ _ _ _; rw [hv1]; exact Blk.new v0 _ _
 have HB := Lib.hid h
 have HB1 : Hid (Below w.heap.size w v1) := hb0.trans (hb1.mono (by omega))
 refine (callsIn_wide (n := 20)).1 ?_
 have hro : Fence.wide.round = none := rfl
 have h20 : 1 ≤ 20 := by omega
 refine callsIn_of_wp_marks Tryz.func59 rfl trivial ?_ rfl
 simp only [Tryz.ntmps59, List.size_toArray, List.length_cons, List.length_nil, Nat.reduceAdd, Nat.reduceSub, Array.replicate_succ, Array.replicate_zero, List.push_toArray, List.append_toArray, List.nil_append, List.cons_append]
 obtain ⟨s0, _⟩ := hS0.out.one
 obtain ⟨s1, _⟩ := HS1.out.one
 obtain ⟨g0, g1, g2, g3, g4, g5⟩ := Ik.Lo.six HL0.out
 have hgl := HL0.out.lt
 clear h hb0 hb1 g0 g1 g2 g4 g5
 obtain ⟨_, _, _, k3, _, _⟩ := Ik.Lo.six HL1.out
 gi_wp2_with fail
 rw [← hv0]
 clear hv0
 refine ⟨trivial, (callsIn_wide.2 HU.out).mono ?_⟩
 rintro _ w1 ⟨rfl, rfl⟩
 gi_wp2_with fail
 try rw [← hv1]
 clear hv1 g3 s0 s1 k3 hgl
 refine ⟨trivial, (callsIn_wide.2 HALL.out).mono ?_⟩
 rintro _ v2 ⟨v, rfl, ⟨hs1, hs2, gf, lb, rfl, hent, hseq⟩, hb2⟩
 have hs0 : w1.heap.size < v2.heap.size := by have := hb2.size; omega
 have bO2 := Lib.hid (bO.out.below hb2 z1)
 have HB2 := Lib.hid hb2
 have HS2 := Lib.hid (HS1.out.below hb2 (by omega))
 have HL2 := Lib.hid (HL1.out.below hb2 0)
 have HP0 : Hid (col (col (col p 0 w.heap.size) 0 w1.heap.size) 0 v1.heap.size w1.heap.size = 0) := by show _ = _; rw [col_lt z1, col_ge (Nat.le_refl _)]
 clear hb2
 gi_wp2_with fail
 refine wpIn_rangeFunc_ownG hro h20 (gf := gf) (lb := lb) rfl trivial hent (hseq (Mn ns) (fun x => (x.1 : Int)) ns.attach ?eqm v2 19 (Keep.refl _ _ _) (by omega)) Keep.trans (keep_b hs2) (Below.refl _ _) (fun _ => rfl)
  (fun pre W => Lv v2 w1.heap.size c.E pre W) (fun _ _ _ => False) (Lv.own hs0) (fun _ _ _ _ _ hs _ _ => hs)
  ⟨⟨none, 0, bO2.out, Mine.nil _ _ _, fun _ => rfl⟩, Only.refl _ _⟩
  (fun x => { tmps := #[.pointer (some ⟨g, 0, none⟩), .pointer (some ⟨w.heap.size, 0, none⟩), .slice none 0 0, .pointer (some ⟨w1.heap.size, 0, none⟩), .int .i64 (x.1 : Int), .pointer (some ⟨g, 0, none⟩), .bool true, .bool false, .pointer (some ⟨g, 0, none⟩), .pointer (some ⟨g, 0, none⟩), .pointer (some ⟨g, 3, none⟩), .pointer (some ⟨q.gr, 0, none⟩), .func (.func gf) #[] lb, .int .i64 (x.1 : Int), undef, undef, undef, undef, undef, undef, undef, undef, undef, undef, undef], defers := [] }) ?assign ?body ?done ?stop
 case eqm =>
  have h := congrArg (List.map fun (n : Nat) => (n : Int)) (List.attach_map_subtype_val ns)
  rw [List.map_map] at h
  exact h
 case assign =>
  intro l x W K hK
  gi_wp2
  exact hK
 case body =>
  intro l pre x W hI hlt
  have hnl := HB.out.rel.lt x.1 x.2
  have hbig := HB.out.rel.big
  obtain ⟨⟨A, m, HBX, HMI, HNI⟩, HON⟩ := hI
  have HLW := Lib.hid (HL2.out.keep HON (fun j hj hp hf => by rcases hf with hf | hf; exact hp (by rw [hf]; exact HP0.out); omega) (fun _ _ => rfl))
  have HSW := Lib.hid (HS2.out.only HON (fun hf => by rcases hf with hf | hf; omega; have := HS2.out.lt; omega))
  have hzW := HON.size
  obtain ⟨n, hn⟩ : ∃ n, n = x.1 := ⟨_, rfl⟩
  rw [← hn] at hnl
  obtain ⟨b, o, hA, hb, hpb, e0, e1, e2, e3, e4, e5, _⟩ := HLW.out.at_ (n := n) hnl
  obtain ⟨_, g1, _, _, _, _⟩ := Ik.Lo.six HLW.out
  rw [hA] at g1
  obtain ⟨y, hy⟩ : ∃ y, y = c.E[n] := ⟨_, rfl⟩
  rw [← hy] at e0 e1 e2 e3 e4 e5
  have HKY : Hid (keptA c.E (pre ++ [x]) = keptA c.E pre ++ [y]) := by show _ = _; unfold keptA; rw [List.map_append, List.map_cons, List.map_nil, ← hn, hy, List.getD_eq_getElem?_getD, List.getElem?_eq_getElem hnl]; rfl
  have i1 : (n : Int) < (c.E.length : Int) := by omega
  have c0 := HBX.cell 0
  have s0 := HSW.out.cell 0
  have hSP : W.drew.cell? ⟨w1.heap.size, 0, none⟩ = some (.slice A pre.length m) ∧ W.drew.cell? ⟨w.heap.size, 0, none⟩ = some (.pointer (some ⟨g, 0, none⟩)) ∧ W.drew.cell? ⟨g, 1, none⟩ = some (.slice (some ⟨b, o, none⟩) c.E.length q.c) ∧ W.drew.cell? ⟨b, o + n * 6, none⟩ = some (.string y.e.k) ∧ W.drew.cell? ⟨b, o + n * 6 + 1, none⟩ = some (.slice y.A y.e.v.length y.a) ∧ W.drew.cell? ⟨b, o + n * 6 + 2, none⟩ = some (.slice y.B y.e.t.length y.b) ∧ W.drew.cell? ⟨b, o + n * 6 + 3, none⟩ = some (.int .u64 y.e.d) ∧ W.drew.cell? ⟨b, o + n * 6 + 4, none⟩ = some (.int .u64 y.e.n) ∧ W.drew.cell? ⟨b, o + n * 6 + 5, none⟩ = some (.int .u64 y.e.s) := ⟨c0, s0, g1, e0, e1, e2, e3, e4, e5⟩
  have HB1 := Lib.hid (show Blk W.drew w1.heap.size _ _ from HBX)
  have HM1 := Lib.hid (mine_drew HMI)
  have O0 := Lib.hid ((Only.refl (fun j => j = w1.heap.size ∨ ∃ a, A = some a ∧ a.block = j) W).drew)
  have HNI := Lib.hid HNI
  have HON := Lib.hid HON
  have HZ0 := Lib.hid (show W.drew.heap.size = W.heap.size from rfl)
  have HLN := Lib.hid hlt
  have hpl : pre.length ≤ 1048576 := by have h1 := HB.out.rel.nd; have h2 := List.length_attach (l := ns); have h3 := HB.out.rel.len; have h4 := HB.out.rel.ok.le; have h5 := HB.out.rel.ok.bb.2.2.2; omega
  have hbs : b < W.drew.heap.size ∧ g < W.drew.heap.size ∧ w.heap.size < W.drew.heap.size ∧ w1.heap.size < W.drew.heap.size := ⟨hb, HLW.out.lt, HSW.out.lt, HBX.lt⟩
  have hne : ∀ a, A = some a → a.block ≠ b ∧ a.block ≠ g ∧ a.block ≠ w.heap.size ∧ a.block ≠ w1.heap.size := fun a ha => by
   have h1 := (HMI.base ha).1
   have h2 := HL2.out.lt
   have h3 := HS2.out.lt
   have h4 : b < v2.heap.size := (HL2.out.en.base hA).2.1
   exact ⟨by omega, by omega, by omega, by omega⟩
  have HNE := Lib.hid hne
  have HAA := Lib.hid hA
  rw [← hn]
  have HNN := Lib.hid hn
  clear hne c0 s0 g1 e0 e1 e2 e3 e4 e5 hy hA HBX HMI hn hlt
  refine wpIn_block ?_
  refine wpIn_region_G 10 (fun v => v.cell? ⟨w1.heap.size, 0, none⟩ = some (.slice A pre.length m) ∧ v.cell? ⟨w.heap.size, 0, none⟩ = some (.pointer (some ⟨g, 0, none⟩)) ∧ v.cell? ⟨g, 1, none⟩ = some (.slice (some ⟨b, o, none⟩) c.E.length q.c) ∧ v.cell? ⟨b, o + n * 6, none⟩ = some (.string y.e.k) ∧ v.cell? ⟨b, o + n * 6 + 1, none⟩ = some (.slice y.A y.e.v.length y.a) ∧ v.cell? ⟨b, o + n * 6 + 2, none⟩ = some (.slice y.B y.e.t.length y.b) ∧ v.cell? ⟨b, o + n * 6 + 3, none⟩ = some (.int .u64 y.e.d) ∧ v.cell? ⟨b, o + n * 6 + 4, none⟩ = some (.int .u64 y.e.n) ∧ v.cell? ⟨b, o + n * 6 + 5, none⟩ = some (.int .u64 y.e.s)) (by kernel_rfl) (fun ⟨_, _, h⟩ => h) (by kernel_rfl) ?_
  have HD0 : Hid (∀ j : Nat, W.drew.heap[j]? = W.heap[j]?) := fun _ => rfl
  obtain ⟨u0, hu0⟩ : ∃ u0, u0 = W.drew := ⟨_, rfl⟩
  rw [← hu0] at hSP HB1 HM1 O0 HZ0 HD0 hbs ⊢
  clear hu0
  have hSP1 : (u0.alloc (.cells #[.string y.e.k, .slice y.A y.e.v.length y.a, .slice y.B y.e.t.length y.b, .int .u64 y.e.d, .int .u64 y.e.n, .int .u64 y.e.s] 42)).cell? ⟨w1.heap.size, 0, none⟩ = some (.slice A pre.length m) ∧ (u0.alloc (.cells #[.string y.e.k, .slice y.A y.e.v.length y.a, .slice y.B y.e.t.length y.b, .int .u64 y.e.d, .int .u64 y.e.n, .int .u64 y.e.s] 42)).cell? ⟨w.heap.size, 0, none⟩ = some (.pointer (some ⟨g, 0, none⟩)) ∧ (u0.alloc (.cells #[.string y.e.k, .slice y.A y.e.v.length y.a, .slice y.B y.e.t.length y.b, .int .u64 y.e.d, .int .u64 y.e.n, .int .u64 y.e.s] 42)).cell? ⟨g, 1, none⟩ = some (.slice (some ⟨b, o, none⟩) c.E.length q.c) ∧ (u0.alloc (.cells #[.string y.e.k, .slice y.A y.e.v.length y.a, .slice y.B y.e.t.length y.b, .int .u64 y.e.d, .int .u64 y.e.n, .int .u64 y.e.s] 42)).cell? ⟨b, o + n * 6, none⟩ = some (.string y.e.k) ∧ (u0.alloc (.cells #[.string y.e.k, .slice y.A y.e.v.length y.a, .slice y.B y.e.t.length y.b, .int .u64 y.e.d, .int .u64 y.e.n, .int .u64 y.e.s] 42)).cell? ⟨b, o + n * 6 + 1, none⟩ = some (.slice y.A y.e.v.length y.a) ∧ (u0.alloc (.cells #[.string y.e.k, .slice y.A y.e.v.length y.a, .slice y.B y.e.t.length y.b, .int .u64 y.e.d, .int .u64 y.e.n, .int .u64 y.e.s] 42)).cell? ⟨b, o + n * 6 + 2, none⟩ = some (.slice y.B y.e.t.length y.b) ∧ (u0.alloc (.cells #[.string y.e.k, .slice y.A y.e.v.length y.a, .slice y.B y.e.t.length y.b, .int .u64 y.e.d, .int .u64 y.e.n, .int .u64 y.e.s] 42)).cell? ⟨b, o + n * 6 + 3, none⟩ = some (.int .u64 y.e.d) ∧ (u0.alloc (.cells #[.string y.e.k, .slice y.A y.e.v.length y.a, .slice y.B y.e.t.length y.b, .int .u64 y.e.d, .int .u64 y.e.n, .int .u64 y.e.s] 42)).cell? ⟨b, o + n * 6 + 4, none⟩ = some (.int .u64 y.e.n) ∧ (u0.alloc (.cells #[.string y.e.k, .slice y.A y.e.v.length y.a, .slice y.B y.e.t.length y.b, .int .u64 y.e.d, .int .u64 y.e.n, .int .u64 y.e.s] 42)).cell? ⟨b, o + n * 6 + 5, none⟩ = some (.int .u64 y.e.s) := by
   obtain ⟨k1, k2, k3, k4, k5, k6, k7, k8, k9⟩ := hSP
   have hc : ∀ (a : Addr) (v : Value), u0.cell? a = some v → (u0.alloc (.cells #[.string y.e.k, .slice y.A y.e.v.length y.a, .slice y.B y.e.t.length y.b, .int .u64 y.e.d, .int .u64 y.e.n, .int .u64 y.e.s] 42)).cell? a = some v := fun a v h => by rw [World.cell?_alloc_lt _ _ _ (World.block_lt_of_cell? _ _ h)]; exact h
   exact ⟨hc _ _ k1, hc _ _ k2, hc _ _ k3, hc _ _ k4, hc _ _ k5, hc _ _ k6, hc _ _ k7, hc _ _ k8, hc _ _ k9⟩
  have HM2 := Lib.hid (HM1.out.below (bnew u0 (.cells #[.string y.e.k, .slice y.A y.e.v.length y.a, .slice y.B y.e.t.length y.b, .int .u64 y.e.d, .int .u64 y.e.n, .int .u64 y.e.s] 42)) (Nat.le_refl _))
  have HSR : Hid (Src Tryz.prog 6 30 (.slice (some ⟨u0.heap.size, 0, none⟩) 1 1) 1 (emC y) (u0.alloc (.cells #[.string y.e.k, .slice y.A y.e.v.length y.a, .slice y.B y.e.t.length y.b, .int .u64 y.e.d, .int .u64 y.e.n, .int .u64 y.e.s] 42))) := src_one u0 y
  refine Rg.tg 0 (some 14) (v := ?_) rfl (by kernel_rfl) (fun _ _ _ h => h) (by rfl) (hSP) ?_ ?_
  rotate_left
  ·intro w hSw; go_simp; first | done | with_reducible rfl
  try simp only [Ap.sc]
  refine Rg.tg 1 (some 15) (v := ?_) rfl (by kernel_rfl) (fun _ _ _ h => h) (by rfl) (hSP) ?_ ?_
  rotate_left
  ·intro w hSw; go_simp; first | done | with_reducible rfl
  try simp only [Ap.sc]
  refine Rg.tg 2 (some 16) (v := ?_) rfl (by kernel_rfl) (fun _ _ _ h => h) (by rfl) (hSP) ?_ ?_
  rotate_left
  ·intro w hSw; go_simp; first | done | with_reducible rfl
  try simp only [Ap.sc]
  refine Rg.tg 3 (some 17) (v := ?_) rfl (by kernel_rfl) (fun _ _ _ h => h) (by rfl) (hSP) ?_ ?_
  rotate_left
  ·intro w hSw; go_simp; first | done | with_reducible rfl
  try simp only [Ap.sc]
  refine Rg.tg 4 (some 18) (v := ?_) rfl (by kernel_rfl) (fun _ _ _ h => h) (by rfl) (hSP) ?_ ?_
  rotate_left
  ·intro w hSw; go_simp; first | done | with_reducible rfl
  try simp only [Ap.sc]
  refine Rg.tg 5 (some 19) (v := ?_) rfl (by kernel_rfl) (fun _ _ _ h => h) (by rfl) (hSP) ?_ ?_
  rotate_left
  ·intro w hSw; go_simp; first | done | with_reducible rfl
  try simp only [Ap.sc]
  refine Rg.tg 6 (some 20) (v := ?_) rfl (by kernel_rfl) (fun _ _ _ h => h) (by rfl) (hSP) ?_ ?_
  rotate_left
  ·intro w hSw; go_simp; first | done | with_reducible rfl
  try simp only [Ap.sc]
  refine Rg.tg 7 (some 21) (v := ?_) rfl (by kernel_rfl) (fun _ _ _ h => h) (by rfl) (hSP) ?_ ?_
  rotate_left
  ·intro w hSw; go_simp; first | done | with_reducible rfl
  try simp only [Ap.sc]
  refine wpAnyG_ready (rs := [8]) (by kernel_rfl) (by simp) ?_
  refine AllReadyG.cons (o := ⟨some 22, _, _, _, _, _⟩) rfl (fun K hK => ?_) AllReadyG.nil
  go_simp
  refine hK.out _ _ (fun _ => hSP1) ?_
  clear hK K
  try simp only [Ap.sc]
  refine wpAnyG_ready (rs := [9]) (by kernel_rfl) (by simp) ?_
  refine AllReadyG.cons (o := ⟨some 23, _, _, _, _, _⟩) rfl (fun K hK => ?_) AllReadyG.nil
  refine step_mine (by kernel_rfl) _ _ elE _ rfl rfl HM2.out _ rfl 1 _ HSR.out (by omega) (by omega) (by have := HZ0.out; simp; omega) ?_
  intro A5 n5 w5 m5 g5' q5
  have ho5 : Only (fun j => ∃ a, A = some a ∧ a.block = j) u0 w5 := (Only.of_below (bnew u0 (.cells #[.string y.e.k, .slice y.A y.e.v.length y.a, .slice y.B y.e.t.length y.b, .int .u64 y.e.d, .int .u64 y.e.n, .int .u64 y.e.s] 42)) (Nat.le_refl _) _).trans ((Only.of_grown g5' (F := fun j => ∃ a, A = some a ∧ a.block = j) (fun k e => by rw [Option.map_eq_some_iff] at e; exact e)).mono fun _ _ hf => Or.inl hf)
  have hSP2 : w5.cell? ⟨w1.heap.size, 0, none⟩ = some (.slice A pre.length m) ∧ w5.cell? ⟨w.heap.size, 0, none⟩ = some (.pointer (some ⟨g, 0, none⟩)) ∧ w5.cell? ⟨g, 1, none⟩ = some (.slice (some ⟨b, o, none⟩) c.E.length q.c) ∧ w5.cell? ⟨b, o + n * 6, none⟩ = some (.string y.e.k) ∧ w5.cell? ⟨b, o + n * 6 + 1, none⟩ = some (.slice y.A y.e.v.length y.a) ∧ w5.cell? ⟨b, o + n * 6 + 2, none⟩ = some (.slice y.B y.e.t.length y.b) ∧ w5.cell? ⟨b, o + n * 6 + 3, none⟩ = some (.int .u64 y.e.d) ∧ w5.cell? ⟨b, o + n * 6 + 4, none⟩ = some (.int .u64 y.e.n) ∧ w5.cell? ⟨b, o + n * 6 + 5, none⟩ = some (.int .u64 y.e.s) := by
   obtain ⟨k1, k2, k3, k4, k5, k6, k7, k8, k9⟩ := hSP
   obtain ⟨z1, z2, z3, z4⟩ := hbs
   exact ⟨(ho5.cell z4 (fun hf => by obtain ⟨a, ha, e⟩ := hf; exact (HNE.out a ha).2.2.2 e)).trans k1, (ho5.cell z3 (fun hf => by obtain ⟨a, ha, e⟩ := hf; exact (HNE.out a ha).2.2.1 e)).trans k2, (ho5.cell z2 (fun hf => by obtain ⟨a, ha, e⟩ := hf; exact (HNE.out a ha).2.1 e)).trans k3, (ho5.cell z1 (fun hf => by obtain ⟨a, ha, e⟩ := hf; exact (HNE.out a ha).1 e)).trans k4, (ho5.cell z1 (fun hf => by obtain ⟨a, ha, e⟩ := hf; exact (HNE.out a ha).1 e)).trans k5, (ho5.cell z1 (fun hf => by obtain ⟨a, ha, e⟩ := hf; exact (HNE.out a ha).1 e)).trans k6, (ho5.cell z1 (fun hf => by obtain ⟨a, ha, e⟩ := hf; exact (HNE.out a ha).1 e)).trans k7, (ho5.cell z1 (fun hf => by obtain ⟨a, ha, e⟩ := hf; exact (HNE.out a ha).1 e)).trans k8, (ho5.cell z1 (fun hf => by obtain ⟨a, ha, e⟩ := hf; exact (HNE.out a ha).1 e)).trans k9⟩
  have HB5 := Lib.hid (HB1.out.only ho5 (fun hf => by obtain ⟨a, ha, e⟩ := hf; exact (HNE.out a ha).2.2.2 e))
  have HM5 := Lib.hid m5
  have HO5 := Lib.hid ho5
  have HQ5 : Hid (A5 = A ∨ ∀ a, A5 = some a → u0.heap.size + 1 ≤ a.block) := by rcases q5 with h | h; exact Or.inl h; exact Or.inr (fun a ha => by have := h a ha; simp at this; omega)
  have e5 := hSP2.1
  have f5 : w5.frozen? ⟨w1.heap.size, 0, none⟩ = false := HB5.out.frozen 0
  clear m5 g5' q5 ho5
  refine hK.out _ _ (fun _ => hSP2) ?_
  clear hK K
  try simp only [Ap.sc]
  refine wpAnyG_ready (rs := [10]) (by kernel_rfl) (by simp) ?_
  refine AllReadyG.cons (o := ⟨none, _, _, _, _, _⟩) rfl (fun K hK => ?_) AllReadyG.nil
  go_simp
  refine hK.out _ _ (fun h => absurd h (by omega)) ?_
  clear hK K
  refine wpAnyG_done (by kernel_rfl) ?_ _
  have how : Only (fun j => j = w1.heap.size) w5 (w5.setCell ⟨w1.heap.size, 0, none⟩ (.slice A5 (pre.length + 1) n5)) := only_own (F := fun j => j = w1.heap.size) rfl _
  have hall : Only (fun j => j = w1.heap.size ∨ ∃ a, A = some a ∧ a.block = j) W (w5.setCell ⟨w1.heap.size, 0, none⟩ (.slice A5 (pre.length + 1) n5)) := (O0.out.trans (HO5.out.mono fun _ _ e => Or.inl (Or.inr e))).trans (how.mono fun _ _ e => Or.inl (Or.inl e))
  have hA5 : ∀ a, A5 = some a → a.block ≠ w1.heap.size := fun a ha e => by
   rcases HQ5.out with h | h
   ·rw [h] at ha; exact (HNE.out a ha).2.2.2 e
   ·have := h a ha; have := hbs.2.2.2; omega
  have hbase : ∀ a, A = some a → v2.heap.size ≤ a.block ∧ a.block < W.heap.size := fun a ha => by have h1 := HM1.out.base ha; have h2 := HZ0.out; exact ⟨h1.1, by omega⟩
  refine ⟨⟨hall.size, fun k ob hk h0 hc => ?_⟩, hall.mono (fun j _ hf hj => ?_), ⟨A5, n5, ?_, ?_, fun h => by simp at h⟩, ?_⟩
  ·have hkl : k < W.heap.size := (Array.getElem?_eq_some_iff.1 h0).1
   rw [hall.block k hkl ?_]
   ·exact h0
   ·rintro (rfl | ⟨a, ha, rfl⟩)
    ·omega
    ·have hp : 0 < pre.length := by
      rcases Nat.eq_zero_or_pos pre.length with h | h
      ·rw [HNI.out (List.eq_nil_of_length_eq_zero h)] at ha; cases ha
      ·exact h
     have hl : 0 < (emL (keptA c.E pre)).length := by rw [emL_len]; unfold keptA; rw [List.length_map]; omega
     have hM := HM1.out
     obtain ⟨g0, ofs, e1, _, _⟩ := mine_place hM hl
     rw [e1] at hM ha
     injection ha with ha
     subst ha
     have hne := HNE.out _ e1
     have h1 : u0.heap[g0]? = some ob := by rw [← h0]; exact HD0.out g0
     have := cells_of (mine_cell hM (List.getElem?_eq_getElem hl)).1 h1
     rw [hc] at this; cases this
  ·rcases hf with rfl | ⟨a, ha, rfl⟩
   ·omega
   ·have := (hbase a ha).1; omega
  ·rw [List.length_append]; exact HB5.out.set 0 _
  ·rw [List.length_append, HKY.out, emL_append, emL_one]; exact HM5.out.only how (fun a ha e => hA5 a ha e)
  ·exact HON.out.trans (hall.mono fun j _ hf => by rcases hf with hf | ⟨a, ha, rfl⟩; exact Or.inl (Or.inl hf); exact Or.inl (Or.inr (hbase a ha).1))
 case done =>
  rintro D ys W hD rfl ⟨⟨A, m, hbx, hmi, HNI0⟩, hon⟩ hK
  have hc := hbx.cell 0
  have hla : (ns.attach).length = (kept c.E ns).length := by rw [kept_len]; simp
  rw [keptA_all] at hmi
  rw [hla] at hc hmi
  have hbw : Below w.heap.size w W := by
   have h1 := HB1.out
   have h2 : Below w.heap.size w v2 := h1.trans (HB2.out.mono h1.size)
   exact h2.trans (hon.below (fun j hj => by rcases hj with hj | hj; omega; have := h2.size; omega) h2.size)
  have hD' : D < W.heap.size := (Array.getElem?_eq_some_iff.1 hK).1
  have hzz : w.heap.size ≤ v2.heap.size := by omega
  have HF : Hid (listPost w (kept c.E ns) (.returned (.slice A (kept c.E ns).length m)) (W.putObj D (.deferred none))) := by
   have ho : Only (fun j => j = D) W (W.putObj D (.deferred none)) := Only.of_grown (grownBy_putObj' W D _) (fun k e => by cases e; rfl)
   refine ⟨A, m, rfl, (hmi.only ho (fun a ha e => ?_)).mono hzz, hbw.trans (ho.below (fun j hj => by rw [hj]; omega) hbw.size)⟩
   have hl : 0 < (emL (kept c.E ns)).length ∨ (kept c.E ns).length = 0 := by rw [emL_len]; omega
   rcases hl with hl | hl
   ·obtain ⟨g0, ofs, e1, _, _⟩ := mine_place hmi hl
    have hM := hmi
    rw [e1] at hM ha
    injection ha with ha
    subst ha
    have := cells_of (mine_cell hM (List.getElem?_eq_getElem hl)).1 (by have e' : g0 = D := e; rw [e']; exact hK)
    cases this
   ·have hns : ns.attach = [] := List.eq_nil_of_length_eq_zero (by rw [hla, hl])
    rw [HNI0 hns] at ha; cases ha
  clear hbx hmi hon
  gi_wp2_with fail
  refine ⟨by simp, .inl ⟨_, _, rfl, run_takeDeferred hK, ?_⟩⟩
  refine ⟨_, results_tmp rfl _ _ _, ?_⟩
  exact HF.out
 case stop =>
  rintro D c pre W _ _ h _
  exact h.elim
end
end Go.Proofs.YtlmljhnogmfcfaaGreat.Il
