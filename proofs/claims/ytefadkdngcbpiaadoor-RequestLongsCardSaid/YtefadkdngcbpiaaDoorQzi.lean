/- Proves that the law RequestLongs returns true. Conditions: the table is laid. -/
import Derived.Test.YtefadkdngcbpiaaDoorQzb
import Derived.Test.YtefadkdngcbpiaaDoorQl
import Derived.Test.YtefadkdngcbpiaaDoorQt
namespace Go.Proofs.YtefadkdngcbpiaaDoor.Qzh
open Go.RowKit Vm Ap Vw Va Gc Mi Mb Qm Qs Qe Qo Qc Qw Qg Qk Ql Qt Qza Qzb

def cA (v z : Bs) (N : Nat) : Cmd := { op := 2, key := [107], keys := [], value := v, tags := List.replicate N z, life := 1, version := 0, tag := [], pre := [], child := [] }
def cM (z : Bs) (N : Nat) : Cmd := { op := 5, key := [], keys := List.replicate N z, value := [], tags := [], life := 0, version := 0, tag := [], pre := [], child := [] }
theorem rdS_long {s r : Bs} (h : 65536 < s.length) (hb : s.length < big) : rdS (encS s ++ r) = none := by
  cases e : rdS (encS s ++ r) with
  | none => rfl
  | some p =>
    obtain ⟨s', r'⟩ := p
    obtain ⟨h1, h2⟩ := rdS_has e
    unfold encS at h1
    rw [List.append_assoc, List.append_assoc] at h1
    have e1 := rdN_put s.length (s ++ r) hb
    rw [h1, rdN_put s'.length (s' ++ r') (by unfold big; omega)] at e1
    simp only [Option.some.injEq, Prod.mk.injEq] at e1
    omega
theorem rdL_long {ls : List Bs} {r : Bs} (h : 16 < ls.length) (hb : ls.length < big) : rdL (encL ls ++ r) = none := by
  unfold rdL encL
  rw [List.append_assoc, rdN_put _ _ hb]
  simp only
  rw [if_pos h]
theorem part107 (c : Cmd) (r : Bs) : rdPart c 107 r = (rdS r).map fun p => ({ c with key := p.1 }, p.2) := by simp (decide := true) only [rdPart, if_true]
theorem part118 (c : Cmd) (r : Bs) : rdPart c 118 r = (rdS r).map fun p => ({ c with value := p.1 }, p.2) := by simp (decide := true) only [rdPart, if_true, if_false]
theorem part116 (c : Cmd) (r : Bs) : rdPart c 116 r = (rdL r).map fun p => ({ c with tags := p.1 }, p.2) := by simp (decide := true) only [rdPart, if_true, if_false]
theorem part109 (c : Cmd) (r : Bs) : rdPart c 109 r = (rdL r).map fun p => ({ c with keys := p.1 }, p.2) := by simp (decide := true) only [rdPart, if_true, if_false]
theorem payA (v z : Bs) (N : Nat) : payR (cA v z N) = encS [107] ++ (encS v ++ (encL (List.replicate N z) ++ encN 1)) := by
  simp (decide := true) [payR, needs, inOp, kx, cA, needsN, bytesR]
theorem payM (z : Bs) (N : Nat) : payR (cM z N) = encL (List.replicate N z) ++ [] := by
  simp (decide := true) [payR, needs, inOp, kx, cM, needsN, bytesR]
theorem a_none {v z : Bs} {N : Nat} (hv : v.length < big) (hN : N < big) (h : 65536 < v.length ∨ 16 < N) : readR 2 (payR (cA v z N)) = none := by
  have hn : needs 2 = [107, 118, 116, 108] := rfl
  unfold readR
  rw [payA, hn, rdAll, part107, rdS_put [107] _ (by simp)]
  simp only [Option.map_some]
  rw [rdAll, part118]
  by_cases h1 : 65536 < v.length
  · rw [rdS_long h1 hv]; rfl
  · rw [rdS_put v _ (by omega)]
    simp only [Option.map_some]
    rw [rdAll, part116, rdL_long (by simp; omega) (by simpa using hN)]
    rfl
theorem m_none {z : Bs} {N : Nat} (hN : N < big) (h : 16 < N) : readR 5 (payR (cM z N)) = none := by
  have hn : needs 5 = [109] := rfl
  unfold readR
  rw [payM, hn, rdAll, part109, rdL_long (by simpa using h) (by simpa using hN)]
  rfl
theorem all_rep {f : Bs → Bool} {z : Bs} (h : f z = true) (N : Nat) : (List.replicate N z).all f = true := by
  rw [List.all_eq_true]; intro s hs; rw [List.eq_of_mem_replicate hs]; exact h
theorem a_valid {v z : Bs} {N : Nat} (hv : v.length ≤ 65536) (hz : z.length = 64) (hN : N ≤ 16) : validG (cA v z N) = true := by
  have ht := all_rep (f := validT) (z := z) (by unfold validT; simp [hz]) N
  unfold validG
  simp (decide := true) [cA, inOp, kx, allowS, allowL, hasP, maskN, validK, ht, hv, hN]
theorem m_valid {z : Bs} {N : Nat} (hz : z.length = 250) (h1 : 1 ≤ N) (hN : N ≤ 16) : validG (cM z N) = true := by
  have ht := all_rep (f := validK) (z := z) (by unfold validK; simp [hz]) N
  unfold validG
  simp (decide := true) [cM, inOp, kx, allowS, allowL, hasP, maskN, ht, hN]
  omega
theorem a_tiny {v z : Bs} {N : Nat} (hv : v.length ≤ 70000) (hz : z.length ≤ 250) (hN : N ≤ 40) : Tiny (cA v z N) :=
  ⟨by simp [cA], by simp [cA], by simp [cA], by simp [cA], hv, by simp [cA], by simpa [cA] using hN, (fun s hs => by cases hs), (fun s hs => by rw [List.eq_of_mem_replicate hs]; omega), by simp [cA, big], by simp [cA, big]⟩
theorem m_tiny {z : Bs} {N : Nat} (hz : z.length ≤ 250) (hN : N ≤ 40) : Tiny (cM z N) :=
  ⟨by simp [cM], by simp [cM], by simp [cM], by simp [cM], by simp [cM], by simpa [cM] using hN, by simp [cM], (fun s hs => by rw [List.eq_of_mem_replicate hs]; omega), (fun s hs => by cases hs), by simp [cM, big], by simp [cM, big]⟩
theorem bnd_tiny {c : Cmd} (h : Tiny c) (h1 : 0 ≤ c.op ∧ c.op ≤ 15) : Bnd c := by
  obtain ⟨a1, a2, a3, a4, a5, a6, a7, a8, a9, b1, b2⟩ := h
  unfold big at b1 b2
  exact ⟨by omega, by omega, by omega, by omega, by omega, by omega, by omega, by omega, by omega, fun s hs => by have := a8 s hs; omega, fun s hs => by have := a9 s hs; omega, b1, b2⟩
/-- What the law asks of a command. -/
structure Lng (w : World) (x : Com) : Prop where
  rc : Rc w x
  tiny : Tiny x.c
  op : 0 ≤ x.c.op ∧ x.c.op ≤ 15
  no : validG x.c = false → readR x.c.op (payR x.c) = none
theorem Lng.below {w w' : World} {x : Com} (h : Lng w x) {B : Nat} (hb : Below B w w') (hB : w.heap.size ≤ B) : Lng w' x := ⟨h.rc.below hb hB, h.tiny, h.op, h.no⟩
theorem Lng.bnd {w : World} {x : Com} (h : Lng w x) : Bnd x.c := bnd_tiny h.tiny h.op

theorem rd_back {c : Cmd} (hs : Small c) (hv : validG c = true) : rdB c.op (payR c) c 0 = true := by
  unfold rdB rdBR
  rw [read_write c hs ((valid_same c).trans hv)]
  simp only
  rw [eqC_self]; rfl

/-! Two commands in blocks, and the rows of their lists. -/
theorem elmS : Elm Tryd.prog 23 9 (.string ⟨#[]⟩) 1 where
  sl := Tryd.underlying23
  info := by kernel_rfl
  small := by
    have h : (Tryd.prog.info? 9).map (·.bytes) = some 16 := by kernel_rfl
    intro i hi; rw [hi] at h; simp at h; omega
  cells := rfl
  pos := by omega
def comA (v z : Bs) (V : Option Addr) (n : Nat) (T : Option Addr) (tc : Nat) : Com := { c := cA v z n, KA := none, kc := 0, VA := V, vc := v.length, TA := T, tc := tc }
def comM (z : Bs) (n : Nat) (K : Option Addr) (kc : Nat) : Com := { c := cM z n, KA := K, kc := kc, VA := none, vc := 0, TA := none, tc := 0 }
theorem rd_mine {B : Nat} {w : World} {A : Option Addr} {n c : Nat} {z : Bs} (h : Mine B 1 w A n c (List.replicate n (strV z))) : Rd w A (List.replicate n z) := fun h0 => by
  rw [List.length_replicate] at h0
  cases A with
  | none => have := h.non rfl; have := h.le; omega
  | some a =>
    obtain ⟨g, o, rfl, h1, h2, h3, h4⟩ := h.lies a rfl
    refine ⟨g, o, rfl, h2, fun j hj => ?_⟩
    rw [List.length_replicate] at hj
    rw [h4 j (by simpa using hj)]
    simp [strV]
/-- The block of a row. -/
def RowB (T : Option Addr) (j : Nat) : Prop := ∃ a, T = some a ∧ a.block = j
structure Two (W2 : World) (C : Nat) (v z1 z2 : Bs) (V : Option Addr) (k1 k2 : Nat) (w : World) (T : Option Addr) (tc : Nat) (K : Option Addr) (kc : Nat) : Prop where
  ba : Box w C (comA v z1 V k1 T tc)
  bm : Box w (C + 1) (comM z2 k2 K kc)
  mT : Mine (C + 2) 1 w T k1 tc (List.replicate k1 (strV z1))
  mK : Mine (C + 2) 1 w K k2 kc (List.replicate k2 (strV z2))
  ap : ∀ a b, T = some a → K = some b → a.block ≠ b.block
  on : Only (fun j => j = C ∨ j = C + 1) W2 w
  sz : W2.heap.size = C + 2
theorem Two.le {W2 : World} {C : Nat} {v z1 z2 : Bs} {V : Option Addr} {k1 k2 : Nat} {w : World} {T : Option Addr} {tc : Nat} {K : Option Addr} {kc : Nat} (h : Two W2 C v z1 z2 V k1 k2 w T tc K kc) : C + 2 ≤ w.heap.size := by
  have := h.on.size; have := h.sz; omega
theorem Two.pushT {W2 : World} {C : Nat} {v z1 z2 : Bs} {V : Option Addr} {k1 k2 : Nat} {w v' : World} {T T2 : Option Addr} {tc tc2 : Nat} {K : Option Addr} {kc : Nat} (h : Two W2 C v z1 z2 V k1 k2 w T tc K kc)
    (ho : Only (RowB T) w v') (m : Mine (C + 2) 1 v' T2 (k1 + 1) tc2 (List.replicate k1 (strV z1) ++ [strV z1])) (d : T2 = T ∨ ∀ a, T2 = some a → w.heap.size ≤ a.block) :
    Two W2 C v z1 z2 V (k1 + 1) k2 (v'.setCell ⟨C, 4, none⟩ (.slice T2 (k1 + 1) tc2)) T2 tc2 K kc := by
  have hle := h.le
  have nT : ∀ j, j < C + 2 → ¬ RowB T j := fun j hj ⟨a, e, hb⟩ => by have := (h.mT.base e).1; omega
  have hs : Only (fun j => j = C) v' (v'.setCell ⟨C, 4, none⟩ (.slice T2 (k1 + 1) tc2)) := (Only.refl (fun j => j = C) v').put (ad := ⟨C, 4, none⟩) rfl _
  have hbm : ∀ a, T2 = some a → C + 2 ≤ a.block := fun a ha => (m.base ha).1
  refine ⟨?_, (h.bm.only ho (nT _ (by omega))).only hs (by omega), ?_, (h.mK.only ho (fun a e ⟨b, e2, hb⟩ => h.ap b a e2 e hb)).only hs (fun a e hj => by have := (h.mK.base e).1; omega), fun a b ea eb => ?_, ?_, h.sz⟩
  · have q := Box_set4 (h.ba.only ho (nT _ (by omega))) (List.replicate (k1 + 1) z1) T2 tc2
    rw [List.length_replicate] at q; exact q
  · rw [List.replicate_succ']
    exact m.only hs (fun a e hj => by have := hbm a e; omega)
  · rcases d with d | d
    · rw [d] at ea; exact h.ap a b ea eb
    · have := d a ea; have := (h.mK.base eb).2.1; omega
  · exact (h.on.trans (ho.mono (fun j hj ⟨a, e, hb⟩ => Or.inr (by have := (h.mT.base e).1; have := h.sz; omega)))).put (Or.inl rfl) _
theorem Two.pushK {W2 : World} {C : Nat} {v z1 z2 : Bs} {V : Option Addr} {k1 k2 : Nat} {w v' : World} {T K2 : Option Addr} {tc kc2 : Nat} {K : Option Addr} {kc : Nat} (h : Two W2 C v z1 z2 V k1 k2 w T tc K kc)
    (ho : Only (RowB K) w v') (m : Mine (C + 2) 1 v' K2 (k2 + 1) kc2 (List.replicate k2 (strV z2) ++ [strV z2])) (d : K2 = K ∨ ∀ a, K2 = some a → w.heap.size ≤ a.block) :
    Two W2 C v z1 z2 V k1 (k2 + 1) (v'.setCell ⟨C + 1, 2, none⟩ (.slice K2 (k2 + 1) kc2)) T tc K2 kc2 := by
  have hle := h.le
  have nT : ∀ j, j < C + 2 → ¬ RowB K j := fun j hj ⟨a, e, hb⟩ => by have := (h.mK.base e).1; omega
  have hs : Only (fun j => j = C + 1) v' (v'.setCell ⟨C + 1, 2, none⟩ (.slice K2 (k2 + 1) kc2)) := (Only.refl (fun j => j = C + 1) v').put (ad := ⟨C + 1, 2, none⟩) rfl _
  have hbm : ∀ a, K2 = some a → C + 2 ≤ a.block := fun a ha => (m.base ha).1
  refine ⟨(h.ba.only ho (nT _ (by omega))).only hs (by omega), ?_, (h.mT.only ho (fun a e ⟨b, e2, hb⟩ => h.ap a b e e2 hb.symm)).only hs (fun a e hj => by have := (h.mT.base e).1; omega), ?_, fun a b ea eb => ?_, ?_, h.sz⟩
  · have q := Box_set2 (h.bm.only ho (nT _ (by omega))) (List.replicate (k2 + 1) z2) K2 kc2
    rw [List.length_replicate] at q; exact q
  · rw [List.replicate_succ']
    exact m.only hs (fun a e hj => by have := hbm a e; omega)
  · rcases d with d | d
    · rw [d] at eb; exact h.ap a b ea eb
    · have := d b eb; have := (h.mT.base ea).2.1; omega
  · exact (h.on.trans (ho.mono (fun j hj ⟨a, e, hb⟩ => Or.inr (by have := (h.mK.base e).1; have := h.sz; omega)))).put (Or.inr rfl) _
theorem src_one {w : World} {nb : Nat} {s : Value} (h : w.cell? ⟨nb, 0, none⟩ = some s) (hs : s.oneCell' = true) : Src Tryd.prog 1 23 (.slice (some ⟨nb, 0, none⟩) 1 1) 1 [s] w :=
  Src.ofSlice w Tryd.underlying23 ⟨nb, 0, none⟩ 1 1 [s] (by simp) (fun j u hu => by
    match j with
    | 0 => simp at hu; subst hu; simpa [Addr.add] using h
    | j + 1 => simp at hu) (fun u hu => by simp at hu; subst hu; exact hs)
end Go.Proofs.YtefadkdngcbpiaaDoor.Qzh
namespace Go.Proofs.YtefadkdngcbpiaaDoor.Qzi
open Go.RowKit Vm Ap Vw Va Gc Mi Mb Qm Qs Qe Qo Qc Qw Qg Qk Ql Qt Qza Qzb Qzh Rg

set_option maxRecDepth 100000 in
set_option maxHeartbeats 1000000 in
theorem longs_over (more parts : Int) (w : World) (he : Env w) (h : more < -2 ∨ 2 < more ∨ parts < -2 ∨ 2 < parts) :
    Calls Tryd.prog 7 #[.int .i64 more, .int .i64 parts] w (boolOf true w) := by
  have HK := Lib.hid (fun W (h : Below w.heap.size w W) => known_any W (he.below h (Nat.le_refl _)))
  clear he
  by_cases h0 : more < -2
  · have d0 : decide (more < -2) = true := by simp; omega
    clear h
    go_enter Tryd.func7, Tryd.ntmps7
    go_wp2_with fail
    refine (HK.out _ (Below.refl _ _)).mono ?_
    rintro e w1 ⟨rfl, hb⟩
    go_wp2_with fail
    go_ret
    exact ⟨rfl, hb⟩
  · have d0 : decide (more < -2) = false := by simp; omega
    by_cases h1 : 2 < more
    · have d1 : decide (2 < more) = true := by simp; omega
      clear h
      go_enter Tryd.func7, Tryd.ntmps7
      go_wp2_with fail
      refine (HK.out _ (Below.refl _ _)).mono ?_
      rintro e w1 ⟨rfl, hb⟩
      go_wp2_with fail
      go_ret
      exact ⟨rfl, hb⟩
    · have d1 : decide (2 < more) = false := by simp; omega
      by_cases h2 : parts < -2
      · have d2 : decide (parts < -2) = true := by simp; omega
        clear h
        go_enter Tryd.func7, Tryd.ntmps7
        go_wp2_with fail
        refine (HK.out _ (Below.refl _ _)).mono ?_
        rintro e w1 ⟨rfl, hb⟩
        go_wp2_with fail
        go_ret
        exact ⟨rfl, hb⟩
      · have d2 : decide (parts < -2) = false := by simp; omega
        have d3 : decide (2 < parts) = true := by simp; omega
        clear h
        go_enter Tryd.func7, Tryd.ntmps7
        go_wp2_with fail
        refine (HK.out _ (Below.refl _ _)).mono ?_
        rintro e w1 ⟨rfl, hb⟩
        go_wp2_with fail
        go_ret
        exact ⟨rfl, hb⟩

set_option maxRecDepth 100000 in
set_option maxHeartbeats 16000000 in
theorem longs_main (more parts : Int) (w : World) (he : Env w) (m1 : -2 ≤ more) (m2 : more ≤ 2) (p1 : -2 ≤ parts) (p2 : parts ≤ 2) :
    Calls Tryd.prog 7 #[.int .i64 more, .int .i64 parts] w (boolOf true w) := by
  have HE := Lib.hid (fun W (h : Below w.heap.size w W) => he.below h (Nat.le_refl _))
  have HK := Lib.hid (fun W (h : Below w.heap.size w W) => known_any W (HE.out _ h))
  have d0 : decide (more < -2) = false := by simp; omega
  have d1 : decide (2 < more) = false := by simp; omega
  have d2 : decide (parts < -2) = false := by simp; omega
  have d3 : decide (2 < parts) = false := by simp; omega
  obtain ⟨n, hn⟩ : ∃ n : Nat, (n : Int) = 65536 + more := ⟨(65536 + more).toNat, by omega⟩
  obtain ⟨N, hN⟩ : ∃ N : Nat, (N : Int) = 16 + parts := ⟨(16 + parts).toNat, by omega⟩
  have hN1 : 14 ≤ N ∧ N ≤ 18 := by omega
  obtain ⟨w1, hmk, hrz, hb1⟩ := make_zeros n w (by omega)
  obtain ⟨v, hzs⟩ : ∃ v : Bs, v = List.replicate n 0 := ⟨_, rfl⟩
  have hzl : v.length = n := by rw [hzs, List.length_replicate]
  rw [← hzs] at hrz
  rw [hn] at hmk
  clear hzs
  obtain rfl := hzl
  obtain ⟨z1, hz1⟩ : ∃ z : Bs, z = List.replicate 64 0 := ⟨_, rfl⟩
  obtain ⟨z2, hz2⟩ : ∃ z : Bs, z = List.replicate 250 0 := ⟨_, rfl⟩
  have L1 : Hid (z1.length = 64) := by show _ = _; rw [hz1, List.length_replicate]
  have L2 : Hid (z2.length = 250) := by show _ = _; rw [hz2, List.length_replicate]
  have MK1 : Hid (∀ W : World, ∃ W1, (Instr.makeSlice 24 (.int .i64 64) (.int .i64 64)).run Tryd.prog W = .ok (.slice (some ⟨W.heap.size, 0, none⟩) 64 64) W1 ∧ Rb W1 (some ⟨W.heap.size, 0, none⟩) z1 ∧ Below W.heap.size W W1) := fun W => by rw [hz1]; exact make_zeros 64 W (by omega)
  have MK2 : Hid (∀ W : World, ∃ W1, (Instr.makeSlice 24 (.int .i64 250) (.int .i64 250)).run Tryd.prog W = .ok (.slice (some ⟨W.heap.size, 0, none⟩) 250 250) W1 ∧ Rb W1 (some ⟨W.heap.size, 0, none⟩) z2 ∧ Below W.heap.size W W1) := fun W => by rw [hz2]; exact make_zeros 250 W (by omega)
  clear hz1 hz2
  obtain ⟨V, hV⟩ : ∃ V : Option Addr, V = some ⟨w.heap.size, 0, none⟩ := ⟨_, rfl⟩
  rw [← hV] at hrz hmk
  have HVN : Hid (V = none → v.length = 0) := fun e => by rw [hV] at e; cases e
  have hvl : v.length ≤ 65538 := by omega
  obtain ⟨w2, hw2⟩ : ∃ w2, w2 = (w1.alloc (comO (comA v z1 V 0 none 0))).alloc (comO (comM z2 0 none 0)) := ⟨_, rfl⟩
  obtain ⟨C, hC⟩ : ∃ C, C = w1.heap.size := ⟨_, rfl⟩
  have hs2 : w2.heap.size = C + 2 := by rw [hw2, hC]; simp
  have B2 : Below w1.heap.size w1 w2 := by rw [hw2]; exact two_below _ _ _
  have HTW : Hid (Two w2 C v z1 z2 V 0 0 w2 none 0 none 0) := by
    refine ⟨?_, ?_, Mine.nil _ _ _, Mine.nil _ _ _, (fun a b e => by cases e), Only.refl _ _, hs2⟩
    · rw [hw2, hC]; exact (Box.new w1 _).below (alloc_below _ _) (Nat.le_refl _)
    · have hb := Box.new (w1.alloc (comO (comA v z1 V 0 none 0))) (comM z2 0 none 0)
      have e : (w1.alloc (comO (comA v z1 V 0 none 0))).heap.size = w1.heap.size + 1 := by simp
      rw [e] at hb
      rw [hw2, hC]; exact hb
  have HB2 : Hid (Below w.heap.size w w2) := hb1.trans (B2.mono hb1.size)
  have HRV : Hid (Rb w2 V v) := hrz.below B2 (Nat.le_refl _)
  have HVC : Hid (∀ a, V = some a → a.block < C) := fun a ha => by
    rw [hV] at ha; injection ha with ha; subst ha
    obtain ⟨b, q, e, hlt, _⟩ := hrz (by omega)
    rw [hV] at e; injection e with e; injection e with e1; rw [hC]; show w.heap.size < _; omega
  have hVE := Lib.hid hV
  have e0 : comO (comA v z1 V 0 none 0) = .cells #[.int .i64 2, .string ⟨#[107]⟩, .slice none 0 0, .slice V v.length v.length, .slice none 0 0, .int .u64 1, .int .u64 0, .string ⟨#[]⟩, .string ⟨#[]⟩, .string ⟨#[]⟩] 28 := rfl
  have e1 : comO (comM z2 0 none 0) = .cells #[.int .i64 5, .string ⟨#[]⟩, .slice none 0 0, .slice none 0 0, .slice none 0 0, .int .u64 0, .int .u64 0, .string ⟨#[]⟩, .string ⟨#[]⟩, .string ⟨#[]⟩] 28 := rfl
  rw [e0, e1] at hw2
  have HN := Lib.hid hN
  have hpN : (16 : Int) + parts = N := hN.symm
  clear e0 e1 hrz B2 hn hV hN he
  have HS2 := Lib.hid hs2
  have HWC : Hid (w.heap.size ≤ C) := by show _ ≤ _; rw [hC]; exact hb1.size
  clear hs2 hb1
  go_enter Tryd.func7, Tryd.ntmps7
  go_upto_region 5 with fail
  rw [← hw2, ← hC]
  have HC := Lib.hid hC
  clear hw2 hC hmk d0 d1 d2 d3 m1 m2
  go_wp2_with fail
  clear hpN
  go_loopw [7] (fun i wr => ∃ (k : Nat) (T : Option Addr) (tc : Nat) (R : Option Addr) (rc : Nat), k ≤ N ∧ i = .int .i64 (k : Int) ∧ Two w2 C v z1 z2 V k k wr T tc R rc) (fun i _ => N - (intOf i).toNat)
  case atStart => exact ⟨0, none, 0, none, 0, Nat.zero_le _, rfl, HTW.out⟩
  case round =>
    obtain ⟨k, T, tc, R, rc, hk, rfl, htw⟩ := hrel
    obtain ⟨wo, rfl⟩ : ∃ wo : World, wo = wr := ⟨_, rfl⟩
    have HT := Lib.hid htw
    have hle := htw.le
    by_cases hlt : k < N
    · have i1 : (k : Int) < 16 + parts := by have := HN.out; omega
      have x4 : ∀ u, Only (RowB T) wo u → u.cell? ⟨C, 4, none⟩ = some (.slice T k tc) := fun u h => by
        have q := (HT.out.ba.only h (fun ⟨a, e, hb⟩ => by have := (HT.out.mT.base e).1; omega)).c4
        simpa [comA, cA] using q
      have HBX : Hid (∀ u, Only (RowB T) wo u → Box u C (comA v z1 V k T tc)) := fun u h => HT.out.ba.only h (fun ⟨a, e, hb⟩ => by have := (HT.out.mT.base e).1; omega)
      clear htw
      go_wp2_with fail
      refine wp_region_noPanic ?_
      refine wp_region_G 6 (fun u => Only (RowB T) wo u) (by kernel_rfl) ?_
      obtain ⟨v0, hv0⟩ : ∃ v0, v0 = wo.drew := ⟨_, rfl⟩
      rw [← hv0]
      have OV : Hid (Only (RowB T) wo v0) := by show Only _ _ _; rw [hv0]; exact (Only.refl _ _).drew
      have HM0 : Hid (Mine (C + 2) 1 v0 T k tc (List.replicate k (strV z1))) := by show Mine _ _ _ _ _ _ _; rw [hv0]; exact HT.out.mT.only ((Only.refl (fun _ => False) _).drew) (fun _ _ hf => hf)
      have HZ0 : Hid (wo.heap.size ≤ v0.heap.size) := OV.out.size
      clear hv0
      refine wpAnyG_take (i := 0) (oi := ⟨some 36, _, _, _, _, _⟩) (v := ?_) rfl (by kernel_rfl) (by kernel_rfl) (by kernel_rfl) (by kernel_rfl) (by kernel_rfl) (fun _ _ _ h => h) (Or.inl ⟨by rfl, ?_⟩) (OV.out) ?_
      rotate_left
      · intro w hSw; go_simp; first | done | with_reducible rfl
      try simp only [Act.put, List.setIfInBounds_toArray, List.set_cons_zero, List.set_cons_succ]
      refine wpAnyG_take (i := 1) (oi := ⟨some 37, _, _, _, _, _⟩) (v := ?_) rfl (by kernel_rfl) (by kernel_rfl) (by kernel_rfl) (by kernel_rfl) (by kernel_rfl) (fun _ _ _ h => h) (Or.inl ⟨by rfl, ?_⟩) (OV.out) ?_
      rotate_left
      · intro w hSw; go_simp; first | done | with_reducible rfl
      try simp only [Act.put, List.setIfInBounds_toArray, List.set_cons_zero, List.set_cons_succ]
      refine wpAnyG_ready (rs := [2]) (by kernel_rfl) (by simp) ?_
      refine AllReadyG.cons (o := ⟨some 38, _, _, _, _, _⟩) rfl (fun K hK => ?_) AllReadyG.nil
      obtain ⟨v1, hmk, hrb, hb1⟩ := MK1.out v0
      go_simp
      have OV1 : Hid (Only (RowB T) wo v1) := OV.out.trans (Only.of_below hb1 (Nat.le_refl _) _)
      have HM1 := Lib.hid (HM0.out.below hb1 (Nat.le_refl _))
      have HZ1 : Hid (wo.heap.size ≤ v1.heap.size) := OV1.out.size
      have CV : (convert 24 9 (.slice (some ⟨v0.heap.size, 0, none⟩) 64 64)).run Tryd.prog v1 = .ok (.string ⟨z1.toArray⟩) v1 := by
        have q := conv_bytes 64 hrb
        rw [L1.out] at q; exact q
      clear hmk hrb hb1
      refine hK.out _ _ (fun _ => OV1.out) ?_
      clear hK K
      try simp only [Act.put, List.setIfInBounds_toArray, List.set_cons_zero, List.set_cons_succ]
      refine wpAnyG_ready (rs := [3]) (by kernel_rfl) (by simp) ?_
      refine AllReadyG.cons (o := ⟨some 39, _, _, _, _, _⟩) rfl (fun K hK => ?_) AllReadyG.nil
      go_simp
      refine hK.out _ _ (fun _ => OV1.out) ?_
      clear hK K
      try simp only [Act.put, List.setIfInBounds_toArray, List.set_cons_zero, List.set_cons_succ]
      refine wpAnyG_ready (rs := [4]) (by kernel_rfl) (by simp) ?_
      refine AllReadyG.cons (o := ⟨some 40, _, _, _, _, _⟩) rfl (fun K hK => ?_) AllReadyG.nil
      go_simp
      clear CV
      obtain ⟨v2, hv2⟩ : ∃ v2, v2 = v1.alloc (.cells #[.string ⟨z1.toArray⟩] 9) := ⟨_, rfl⟩
      obtain ⟨nb, hnb⟩ : ∃ nb, nb = v1.heap.size := ⟨_, rfl⟩
      have hb2 : Below v1.heap.size v1 v2 := by rw [hv2]; exact alloc_below _ _
      have OV2 : Hid (Only (RowB T) wo v2) := OV1.out.trans (Only.of_below hb2 (Nat.le_refl _) _)
      have HM2 := Lib.hid (HM1.out.below hb2 (Nat.le_refl _))
      have HZ2 : Hid (wo.heap.size ≤ v2.heap.size) := OV2.out.size
      have HL2 : Hid (v2.cell? ⟨nb, 0, none⟩ = some (.string ⟨z1.toArray⟩)) := by show _ = _; rw [hv2, hnb, cell_of_row _ _ _ _ _ (0, 0) (heap_alloc_new _ _)]; rfl
      rw [← hv2, ← hnb]
      clear hv2 hnb hb2 HM1 HM0
      refine hK.out _ _ (fun _ => OV2.out) ?_
      clear hK K
      try simp only [Act.put, List.setIfInBounds_toArray, List.set_cons_zero, List.set_cons_succ]
      refine wpAnyG_ready (rs := [5]) (by kernel_rfl) (by simp) ?_
      refine AllReadyG.cons (o := ⟨some 41, _, _, _, _, _⟩) rfl (fun K hK => ?_) AllReadyG.nil
      refine step_mine (by kernel_rfl) _ _ elmS _ rfl rfl HM2.out _ rfl 1 _ (src_one HL2.out rfl) (by omega) (by omega) (by have h1 := HZ2.out; have h2 := HT.out.le; omega) ?_
      intro A3 c3 v3 m3 g3 d3
      have OV3 : Hid (Only (RowB T) wo v3) := OV2.out.trans (Only.of_grown g3 (fun j e => by rw [Option.map_eq_some_iff] at e; exact Or.inl e))
      have HD3 : Hid (A3 = T ∨ ∀ a, A3 = some a → wo.heap.size ≤ a.block) := d3.imp id (fun h a ha => Nat.le_trans HZ2.out (h a ha))
      have HM3 := Lib.hid m3
      clear m3 g3 d3 HM2 HL2
      refine hK.out _ _ (fun _ => OV3.out) ?_
      clear hK K
      try simp only [Act.put, List.setIfInBounds_toArray, List.set_cons_zero, List.set_cons_succ]
      have bq := HT.out.ba.only OV3.out (fun ⟨a, e, hb⟩ => by have h1 := (HT.out.mT.base e).1; omega)
      have cq := bq.c4
      have uq := bq.un 4
      clear bq
      refine wpAnyG_ready (rs := [6]) (by kernel_rfl) (by simp) ?_
      refine AllReadyG.cons (o := ⟨some 42, _, _, _, _, _⟩) rfl (fun K hK => ?_) AllReadyG.nil
      go_simp
      refine hK.out _ _ (fun h => absurd h (by omega)) ?_
      clear hK K
      try simp only [Act.put, List.setIfInBounds_toArray, List.set_cons_zero, List.set_cons_succ]
      refine wpAnyG_ready (rs := [7]) (by kernel_rfl) (by simp) ?_
      refine AllReadyG.cons (o := ⟨none, _, _, _, _, _⟩) rfl (fun K hK => ?_) AllReadyG.nil
      go_simp
      refine hK.out _ _ (fun h => absurd h (by omega)) ?_
      clear hK K
      try simp only [Act.put, List.setIfInBounds_toArray, List.set_cons_zero, List.set_cons_succ]
      refine wpAnyG_done (by kernel_rfl) ?_ _
      refine NoPanic.normal ?_
      obtain ⟨ua, hua⟩ : ∃ u, u = v3.setCell ⟨C, 4, none⟩ (.slice A3 (k + 1) c3) := ⟨_, rfl⟩
      have HTa := Lib.hid (HT.out.pushT OV3.out HM3.out HD3.out)
      rw [← hua] at HTa
      rw [← hua]
      clear hua cq uq OV OV1 OV2 OV3 HM3 HD3 HZ0 HZ1 HZ2
      obtain ⟨T2, hT2⟩ : ∃ T2, T2 = A3 := ⟨_, rfl⟩
      obtain ⟨tc2, htc2⟩ : ∃ t, t = c3 := ⟨_, rfl⟩
      rw [← hT2, ← htc2] at HTa
      clear hT2 htc2 x4 HBX HT
      have y4 : ∀ u, Only (RowB R) ua u → u.cell? ⟨C + 1, 2, none⟩ = some (.slice R k rc) := fun u h => by
        have q := (HTa.out.bm.only h (fun ⟨a, e, hb⟩ => by have := (HTa.out.mK.base e).1; omega)).c2
        simpa [comM, cM] using q
      have hle2 := HTa.out.le
      go_wp2_with fail
      refine wp_region_noPanic ?_
      refine wp_region_G 6 (fun u => Only (RowB R) ua u) (by kernel_rfl) ?_
      obtain ⟨v0, hv0⟩ : ∃ v0, v0 = ua.drew := ⟨_, rfl⟩
      rw [← hv0]
      have OV : Hid (Only (RowB R) ua v0) := by show Only _ _ _; rw [hv0]; exact (Only.refl _ _).drew
      have HM0 : Hid (Mine (C + 2) 1 v0 R k rc (List.replicate k (strV z2))) := by show Mine _ _ _ _ _ _ _; rw [hv0]; exact HTa.out.mK.only ((Only.refl (fun _ => False) _).drew) (fun _ _ hf => hf)
      have HZ0 : Hid (ua.heap.size ≤ v0.heap.size) := OV.out.size
      clear hv0
      refine wpAnyG_take (i := 0) (oi := ⟨some 43, _, _, _, _, _⟩) (v := ?_) rfl (by kernel_rfl) (by kernel_rfl) (by kernel_rfl) (by kernel_rfl) (by kernel_rfl) (fun _ _ _ h => h) (Or.inl ⟨by rfl, ?_⟩) (OV.out) ?_
      rotate_left
      · intro w hSw; go_simp; first | done | with_reducible rfl
      try simp only [Act.put, List.setIfInBounds_toArray, List.set_cons_zero, List.set_cons_succ]
      refine wpAnyG_take (i := 1) (oi := ⟨some 44, _, _, _, _, _⟩) (v := ?_) rfl (by kernel_rfl) (by kernel_rfl) (by kernel_rfl) (by kernel_rfl) (by kernel_rfl) (fun _ _ _ h => h) (Or.inl ⟨by rfl, ?_⟩) (OV.out) ?_
      rotate_left
      · intro w hSw; go_simp; first | done | with_reducible rfl
      try simp only [Act.put, List.setIfInBounds_toArray, List.set_cons_zero, List.set_cons_succ]
      refine wpAnyG_ready (rs := [2]) (by kernel_rfl) (by simp) ?_
      refine AllReadyG.cons (o := ⟨some 45, _, _, _, _, _⟩) rfl (fun K hK => ?_) AllReadyG.nil
      obtain ⟨v1, hmk, hrb, hb1⟩ := MK2.out v0
      go_simp
      have OV1 : Hid (Only (RowB R) ua v1) := OV.out.trans (Only.of_below hb1 (Nat.le_refl _) _)
      have HM1 := Lib.hid (HM0.out.below hb1 (Nat.le_refl _))
      have HZ1 : Hid (ua.heap.size ≤ v1.heap.size) := OV1.out.size
      have CV : (convert 24 9 (.slice (some ⟨v0.heap.size, 0, none⟩) 250 250)).run Tryd.prog v1 = .ok (.string ⟨z2.toArray⟩) v1 := by
        have q := conv_bytes 250 hrb
        rw [L2.out] at q; exact q
      clear hmk hrb hb1
      refine hK.out _ _ (fun _ => OV1.out) ?_
      clear hK K
      try simp only [Act.put, List.setIfInBounds_toArray, List.set_cons_zero, List.set_cons_succ]
      refine wpAnyG_ready (rs := [3]) (by kernel_rfl) (by simp) ?_
      refine AllReadyG.cons (o := ⟨some 46, _, _, _, _, _⟩) rfl (fun K hK => ?_) AllReadyG.nil
      go_simp
      refine hK.out _ _ (fun _ => OV1.out) ?_
      clear hK K
      try simp only [Act.put, List.setIfInBounds_toArray, List.set_cons_zero, List.set_cons_succ]
      refine wpAnyG_ready (rs := [4]) (by kernel_rfl) (by simp) ?_
      refine AllReadyG.cons (o := ⟨some 47, _, _, _, _, _⟩) rfl (fun K hK => ?_) AllReadyG.nil
      go_simp
      clear CV
      obtain ⟨v2, hv2⟩ : ∃ v2, v2 = v1.alloc (.cells #[.string ⟨z2.toArray⟩] 9) := ⟨_, rfl⟩
      obtain ⟨nb, hnb⟩ : ∃ nb, nb = v1.heap.size := ⟨_, rfl⟩
      have hb2 : Below v1.heap.size v1 v2 := by rw [hv2]; exact alloc_below _ _
      have OV2 : Hid (Only (RowB R) ua v2) := OV1.out.trans (Only.of_below hb2 (Nat.le_refl _) _)
      have HM2 := Lib.hid (HM1.out.below hb2 (Nat.le_refl _))
      have HZ2 : Hid (ua.heap.size ≤ v2.heap.size) := OV2.out.size
      have HL2 : Hid (v2.cell? ⟨nb, 0, none⟩ = some (.string ⟨z2.toArray⟩)) := by show _ = _; rw [hv2, hnb, cell_of_row _ _ _ _ _ (0, 0) (heap_alloc_new _ _)]; rfl
      rw [← hv2, ← hnb]
      clear hv2 hnb hb2 HM1 HM0
      refine hK.out _ _ (fun _ => OV2.out) ?_
      clear hK K
      try simp only [Act.put, List.setIfInBounds_toArray, List.set_cons_zero, List.set_cons_succ]
      refine wpAnyG_ready (rs := [5]) (by kernel_rfl) (by simp) ?_
      refine AllReadyG.cons (o := ⟨some 48, _, _, _, _, _⟩) rfl (fun K hK => ?_) AllReadyG.nil
      refine step_mine (by kernel_rfl) _ _ elmS _ rfl rfl HM2.out _ rfl 1 _ (src_one HL2.out rfl) (by omega) (by omega) (by have h1 := HZ2.out; have h2 := HTa.out.le; omega) ?_
      intro A3 c3 v3 m3 g3 d3
      have OV3 : Hid (Only (RowB R) ua v3) := OV2.out.trans (Only.of_grown g3 (fun j e => by rw [Option.map_eq_some_iff] at e; exact Or.inl e))
      have HD3 : Hid (A3 = R ∨ ∀ a, A3 = some a → ua.heap.size ≤ a.block) := d3.imp id (fun h a ha => Nat.le_trans HZ2.out (h a ha))
      have HM3 := Lib.hid m3
      clear m3 g3 d3 HM2 HL2
      refine hK.out _ _ (fun _ => OV3.out) ?_
      clear hK K
      try simp only [Act.put, List.setIfInBounds_toArray, List.set_cons_zero, List.set_cons_succ]
      have bq := HTa.out.bm.only OV3.out (fun ⟨a, e, hb⟩ => by have h1 := (HTa.out.mK.base e).1; omega)
      have cq := bq.c2
      have uq := bq.un 2
      clear bq
      refine wpAnyG_ready (rs := [6]) (by kernel_rfl) (by simp) ?_
      refine AllReadyG.cons (o := ⟨some 49, _, _, _, _, _⟩) rfl (fun K hK => ?_) AllReadyG.nil
      go_simp
      refine hK.out _ _ (fun h => absurd h (by omega)) ?_
      clear hK K
      try simp only [Act.put, List.setIfInBounds_toArray, List.set_cons_zero, List.set_cons_succ]
      refine wpAnyG_ready (rs := [7]) (by kernel_rfl) (by simp) ?_
      refine AllReadyG.cons (o := ⟨none, _, _, _, _, _⟩) rfl (fun K hK => ?_) AllReadyG.nil
      go_simp
      refine hK.out _ _ (fun h => absurd h (by omega)) ?_
      clear hK K
      try simp only [Act.put, List.setIfInBounds_toArray, List.set_cons_zero, List.set_cons_succ]
      refine wpAnyG_done (by kernel_rfl) ?_ _
      refine NoPanic.normal ?_
      obtain ⟨ub, hub⟩ : ∃ u, u = v3.setCell ⟨C + 1, 2, none⟩ (.slice A3 (k + 1) c3) := ⟨_, rfl⟩
      have HTb := Lib.hid (HTa.out.pushK OV3.out HM3.out HD3.out)
      rw [← hub] at HTb
      rw [← hub]
      clear hub cq uq OV OV1 OV2 OV3 HM3 HD3 HZ0 HZ1 HZ2
      go_wp2_with fail
      go_roundw
      case rel => exact ⟨k + 1, T2, tc2, A3, c3, by omega, by go_num, HTb.out⟩
      case measure => simp [intOf]; omega
    · obtain rfl : k = N := by omega
      have hnn : ¬ (k : Int) < 16 + parts := by have := HN.out; omega
      have HBo : Hid (Below w.heap.size w wo) := HB2.out.trans (htw.on.below (fun j e => by have h1 := HB2.out.size; have h2 := HS2.out; have h3 := HWC.out; omega) HB2.out.size)
      have HGX : Hid (Lng wo (comA v z1 V k T tc)) := by
        refine ⟨⟨Rd.nil _ _, fun _ => rfl, rb_only HRV.out htw.on (fun a ha e => by have := HVC.out a ha; omega), HVN.out, rd_mine htw.mT, htw.mT.non⟩, a_tiny (by omega) (by rw [L1.out]; omega) (by omega), by show (0 : Int) ≤ 2 ∧ (2 : Int) ≤ 15; omega, fun hf => ?_⟩
        apply a_none (by unfold big; omega) (by unfold big; omega)
        by_cases h1 : 65536 < v.length
        · exact Or.inl h1
        · by_cases h2 : 16 < k
          · exact Or.inr h2
          · have hf' : validG (cA v z1 k) = false := hf
            rw [a_valid (by omega) L1.out (by omega)] at hf'; cases hf'
      have HGY : Hid (Lng wo (comM z2 k R rc)) := by
        refine ⟨⟨rd_mine htw.mK, htw.mK.non, Rb.nil _ _, fun _ => rfl, Rd.nil _ _, fun _ => rfl⟩, m_tiny (by rw [L2.out]; omega) (by omega), by show (0 : Int) ≤ 5 ∧ (5 : Int) ≤ 15; omega, fun hf => ?_⟩
        apply m_none (by unfold big; omega)
        by_cases h2 : 16 < k
        · exact h2
        · have hf' : validG (cM z2 k) = false := hf
          rw [m_valid L2.out (by omega) (by omega)] at hf'; cases hf'
      have HBX := Lib.hid htw.ba
      have HBY := Lib.hid htw.bm
      obtain ⟨x, hx⟩ : ∃ x, x = comA v z1 V k T tc := ⟨_, rfl⟩
      obtain ⟨y, hy⟩ : ∃ y, y = comM z2 k R rc := ⟨_, rfl⟩
      rw [← hx] at HGX HBX
      rw [← hy] at HGY HBY
      clear hx hy htw HT HTW HVN HRV HVC hVE L1 L2 MK1 MK2 HB2 HWC HS2 hlt hN1
      obtain ⟨c0, c1, c2, c3, c4, c5, c6, c7, c8, c9, _⟩ := HBX.out
      obtain ⟨d0, d1, d2, d3, d4, d5, d6, d7, d8, d9, _⟩ := HBY.out
      go_upto_region 11 with fail
      obtain ⟨w3, hw3⟩ : ∃ w3, w3 = wo.alloc (.cells #[.int .i64 x.c.op, .string ⟨x.c.key.toArray⟩, .slice x.KA x.c.keys.length x.kc, .slice x.VA x.c.value.length x.vc, .slice x.TA x.c.tags.length x.tc, .int .u64 (x.c.life : Int), .int .u64 (x.c.version : Int), .string ⟨x.c.tag.toArray⟩, .string ⟨x.c.pre.toArray⟩, .string ⟨x.c.child.toArray⟩, .int .i64 y.c.op, .string ⟨y.c.key.toArray⟩, .slice y.KA y.c.keys.length y.kc, .slice y.VA y.c.value.length y.vc, .slice y.TA y.c.tags.length y.tc, .int .u64 (y.c.life : Int), .int .u64 (y.c.version : Int), .string ⟨y.c.tag.toArray⟩, .string ⟨y.c.pre.toArray⟩, .string ⟨y.c.child.toArray⟩] 28) := ⟨_, rfl⟩
      obtain ⟨b, hb⟩ : ∃ b, b = wo.heap.size := ⟨_, rfl⟩
      have b3 : Below wo.heap.size wo w3 := by rw [hw3]; exact alloc_below _ _
      have HB3 := Lib.hid (HBo.out.trans (b3.mono HBo.out.size))
      have HL3 : Hid (b < w3.heap.size) := by show _ < _; rw [hw3, hb]; simp
      replace HGX := Lib.hid (HGX.out.below b3 (Nat.le_refl _))
      replace HGY := Lib.hid (HGY.out.below b3 (Nat.le_refl _))
      have q0 : w3.cell? ⟨b, 0, none⟩ = some (.int .i64 x.c.op) := by rw [hw3, hb, cell_of_row _ _ _ _ _ (0, 0) (heap_alloc_new _ _)]; rfl
      have q1 : w3.cell? ⟨b, 1, none⟩ = some (.string ⟨x.c.key.toArray⟩) := by rw [hw3, hb, cell_of_row _ _ _ _ _ (0, 0) (heap_alloc_new _ _)]; rfl
      have q2 : w3.cell? ⟨b, 2, none⟩ = some (.slice x.KA x.c.keys.length x.kc) := by rw [hw3, hb, cell_of_row _ _ _ _ _ (0, 0) (heap_alloc_new _ _)]; rfl
      have q3 : w3.cell? ⟨b, 3, none⟩ = some (.slice x.VA x.c.value.length x.vc) := by rw [hw3, hb, cell_of_row _ _ _ _ _ (0, 0) (heap_alloc_new _ _)]; rfl
      have q4 : w3.cell? ⟨b, 4, none⟩ = some (.slice x.TA x.c.tags.length x.tc) := by rw [hw3, hb, cell_of_row _ _ _ _ _ (0, 0) (heap_alloc_new _ _)]; rfl
      have q5 : w3.cell? ⟨b, 5, none⟩ = some (.int .u64 (x.c.life : Int)) := by rw [hw3, hb, cell_of_row _ _ _ _ _ (0, 0) (heap_alloc_new _ _)]; rfl
      have q6 : w3.cell? ⟨b, 6, none⟩ = some (.int .u64 (x.c.version : Int)) := by rw [hw3, hb, cell_of_row _ _ _ _ _ (0, 0) (heap_alloc_new _ _)]; rfl
      have q7 : w3.cell? ⟨b, 7, none⟩ = some (.string ⟨x.c.tag.toArray⟩) := by rw [hw3, hb, cell_of_row _ _ _ _ _ (0, 0) (heap_alloc_new _ _)]; rfl
      have q8 : w3.cell? ⟨b, 8, none⟩ = some (.string ⟨x.c.pre.toArray⟩) := by rw [hw3, hb, cell_of_row _ _ _ _ _ (0, 0) (heap_alloc_new _ _)]; rfl
      have q9 : w3.cell? ⟨b, 9, none⟩ = some (.string ⟨x.c.child.toArray⟩) := by rw [hw3, hb, cell_of_row _ _ _ _ _ (0, 0) (heap_alloc_new _ _)]; rfl
      have q10 : w3.cell? ⟨b, 10, none⟩ = some (.int .i64 y.c.op) := by rw [hw3, hb, cell_of_row _ _ _ _ _ (0, 0) (heap_alloc_new _ _)]; rfl
      have q11 : w3.cell? ⟨b, 11, none⟩ = some (.string ⟨y.c.key.toArray⟩) := by rw [hw3, hb, cell_of_row _ _ _ _ _ (0, 0) (heap_alloc_new _ _)]; rfl
      have q12 : w3.cell? ⟨b, 12, none⟩ = some (.slice y.KA y.c.keys.length y.kc) := by rw [hw3, hb, cell_of_row _ _ _ _ _ (0, 0) (heap_alloc_new _ _)]; rfl
      have q13 : w3.cell? ⟨b, 13, none⟩ = some (.slice y.VA y.c.value.length y.vc) := by rw [hw3, hb, cell_of_row _ _ _ _ _ (0, 0) (heap_alloc_new _ _)]; rfl
      have q14 : w3.cell? ⟨b, 14, none⟩ = some (.slice y.TA y.c.tags.length y.tc) := by rw [hw3, hb, cell_of_row _ _ _ _ _ (0, 0) (heap_alloc_new _ _)]; rfl
      have q15 : w3.cell? ⟨b, 15, none⟩ = some (.int .u64 (y.c.life : Int)) := by rw [hw3, hb, cell_of_row _ _ _ _ _ (0, 0) (heap_alloc_new _ _)]; rfl
      have q16 : w3.cell? ⟨b, 16, none⟩ = some (.int .u64 (y.c.version : Int)) := by rw [hw3, hb, cell_of_row _ _ _ _ _ (0, 0) (heap_alloc_new _ _)]; rfl
      have q17 : w3.cell? ⟨b, 17, none⟩ = some (.string ⟨y.c.tag.toArray⟩) := by rw [hw3, hb, cell_of_row _ _ _ _ _ (0, 0) (heap_alloc_new _ _)]; rfl
      have q18 : w3.cell? ⟨b, 18, none⟩ = some (.string ⟨y.c.pre.toArray⟩) := by rw [hw3, hb, cell_of_row _ _ _ _ _ (0, 0) (heap_alloc_new _ _)]; rfl
      have q19 : w3.cell? ⟨b, 19, none⟩ = some (.string ⟨y.c.child.toArray⟩) := by rw [hw3, hb, cell_of_row _ _ _ _ _ (0, 0) (heap_alloc_new _ _)]; rfl
      have r0 : Hid (∀ u, Below w3.heap.size w3 u → u.cell? ⟨b, 0, none⟩ = some (.int .i64 x.c.op)) := fun u h => by rw [h.cell (p := ⟨b, 0, none⟩) HL3.out]; exact q0
      have r1 : Hid (∀ u, Below w3.heap.size w3 u → u.cell? ⟨b, 1, none⟩ = some (.string ⟨x.c.key.toArray⟩)) := fun u h => by rw [h.cell (p := ⟨b, 1, none⟩) HL3.out]; exact q1
      have r2 : Hid (∀ u, Below w3.heap.size w3 u → u.cell? ⟨b, 2, none⟩ = some (.slice x.KA x.c.keys.length x.kc)) := fun u h => by rw [h.cell (p := ⟨b, 2, none⟩) HL3.out]; exact q2
      have r3 : Hid (∀ u, Below w3.heap.size w3 u → u.cell? ⟨b, 3, none⟩ = some (.slice x.VA x.c.value.length x.vc)) := fun u h => by rw [h.cell (p := ⟨b, 3, none⟩) HL3.out]; exact q3
      have r4 : Hid (∀ u, Below w3.heap.size w3 u → u.cell? ⟨b, 4, none⟩ = some (.slice x.TA x.c.tags.length x.tc)) := fun u h => by rw [h.cell (p := ⟨b, 4, none⟩) HL3.out]; exact q4
      have r5 : Hid (∀ u, Below w3.heap.size w3 u → u.cell? ⟨b, 5, none⟩ = some (.int .u64 (x.c.life : Int))) := fun u h => by rw [h.cell (p := ⟨b, 5, none⟩) HL3.out]; exact q5
      have r6 : Hid (∀ u, Below w3.heap.size w3 u → u.cell? ⟨b, 6, none⟩ = some (.int .u64 (x.c.version : Int))) := fun u h => by rw [h.cell (p := ⟨b, 6, none⟩) HL3.out]; exact q6
      have r7 : Hid (∀ u, Below w3.heap.size w3 u → u.cell? ⟨b, 7, none⟩ = some (.string ⟨x.c.tag.toArray⟩)) := fun u h => by rw [h.cell (p := ⟨b, 7, none⟩) HL3.out]; exact q7
      have r8 : Hid (∀ u, Below w3.heap.size w3 u → u.cell? ⟨b, 8, none⟩ = some (.string ⟨x.c.pre.toArray⟩)) := fun u h => by rw [h.cell (p := ⟨b, 8, none⟩) HL3.out]; exact q8
      have r9 : Hid (∀ u, Below w3.heap.size w3 u → u.cell? ⟨b, 9, none⟩ = some (.string ⟨x.c.child.toArray⟩)) := fun u h => by rw [h.cell (p := ⟨b, 9, none⟩) HL3.out]; exact q9
      have r10 : Hid (∀ u, Below w3.heap.size w3 u → u.cell? ⟨b, 10, none⟩ = some (.int .i64 y.c.op)) := fun u h => by rw [h.cell (p := ⟨b, 10, none⟩) HL3.out]; exact q10
      have r11 : Hid (∀ u, Below w3.heap.size w3 u → u.cell? ⟨b, 11, none⟩ = some (.string ⟨y.c.key.toArray⟩)) := fun u h => by rw [h.cell (p := ⟨b, 11, none⟩) HL3.out]; exact q11
      have r12 : Hid (∀ u, Below w3.heap.size w3 u → u.cell? ⟨b, 12, none⟩ = some (.slice y.KA y.c.keys.length y.kc)) := fun u h => by rw [h.cell (p := ⟨b, 12, none⟩) HL3.out]; exact q12
      have r13 : Hid (∀ u, Below w3.heap.size w3 u → u.cell? ⟨b, 13, none⟩ = some (.slice y.VA y.c.value.length y.vc)) := fun u h => by rw [h.cell (p := ⟨b, 13, none⟩) HL3.out]; exact q13
      have r14 : Hid (∀ u, Below w3.heap.size w3 u → u.cell? ⟨b, 14, none⟩ = some (.slice y.TA y.c.tags.length y.tc)) := fun u h => by rw [h.cell (p := ⟨b, 14, none⟩) HL3.out]; exact q14
      have r15 : Hid (∀ u, Below w3.heap.size w3 u → u.cell? ⟨b, 15, none⟩ = some (.int .u64 (y.c.life : Int))) := fun u h => by rw [h.cell (p := ⟨b, 15, none⟩) HL3.out]; exact q15
      have r16 : Hid (∀ u, Below w3.heap.size w3 u → u.cell? ⟨b, 16, none⟩ = some (.int .u64 (y.c.version : Int))) := fun u h => by rw [h.cell (p := ⟨b, 16, none⟩) HL3.out]; exact q16
      have r17 : Hid (∀ u, Below w3.heap.size w3 u → u.cell? ⟨b, 17, none⟩ = some (.string ⟨y.c.tag.toArray⟩)) := fun u h => by rw [h.cell (p := ⟨b, 17, none⟩) HL3.out]; exact q17
      have r18 : Hid (∀ u, Below w3.heap.size w3 u → u.cell? ⟨b, 18, none⟩ = some (.string ⟨y.c.pre.toArray⟩)) := fun u h => by rw [h.cell (p := ⟨b, 18, none⟩) HL3.out]; exact q18
      have r19 : Hid (∀ u, Below w3.heap.size w3 u → u.cell? ⟨b, 19, none⟩ = some (.string ⟨y.c.child.toArray⟩)) := fun u h => by rw [h.cell (p := ⟨b, 19, none⟩) HL3.out]; exact q19
      rw [← hw3, ← hb]
      clear hw3 hb b3 c0 c1 c2 c3 c4 c5 c6 c7 c8 c9 d0 d1 d2 d3 d4 d5 d6 d7 d8 d9 HBX HBY HBo q0 q1 q2 q3 q4 q5 q6 q7 q8 q9 q10 q11 q12 q13 q14 q15 q16 q17 q18 q19
      go_wp2_with fail

      go_loopw [54] (fun i wr => ∃ (j : Nat), j ≤ 2 ∧ i = .int .i64 (j : Int) ∧ Below w3.heap.size w3 wr) (fun i _ => 2 - (intOf i).toNat)
      case atStart => exact ⟨0, by omega, rfl, Below.refl _ _⟩
      case round =>
        obtain ⟨j, hj, rfl, hbw⟩ := hrel
        obtain ⟨w4, rfl⟩ : ∃ w4 : World, w4 = wr := ⟨_, rfl⟩
        have HB4 := Lib.hid hbw
        clear hbw
        have hj3 : j = 0 ∨ j = 1 ∨ j = 2 := by omega
        rcases hj3 with rfl | rfl | rfl
        · have s0 := r0.out w4 HB4.out
          have s1 := r1.out w4 HB4.out
          have s2 := r2.out w4 HB4.out
          have s3 := r3.out w4 HB4.out
          have s4 := r4.out w4 HB4.out
          have s5 := r5.out w4 HB4.out
          have s6 := r6.out w4 HB4.out
          have s7 := r7.out w4 HB4.out
          have s8 := r8.out w4 HB4.out
          have s9 := r9.out w4 HB4.out
          go_upto_region 13 with fail
          obtain ⟨w5, hw5⟩ : ∃ w5, w5 = w4.alloc (comO x) := ⟨_, rfl⟩
          have b5 : Below w4.heap.size w4 w5 := by rw [hw5]; exact alloc_below _ _
          have HX5 : Hid (Box w5 w4.heap.size x) := by show Box _ _ _; rw [hw5]; exact Box.new w4 x
          have HB5 := Lib.hid (HB4.out.trans (b5.mono HB4.out.size))
          have HG5 := Lib.hid (HGX.out.below HB5.out (Nat.le_refl _))
          obtain ⟨D, hD⟩ : ∃ D, D = w4.heap.size := ⟨_, rfl⟩
          unfold comO at hw5
          rw [← hD] at HX5
          rw [← hw5, ← hD]
          clear hw5 b5 hD s0 s1 s2 s3 s4 s5 s6 s7 s8 s9
          have HEW : Hid (∀ W, Below w5.heap.size w5 W → Env W) := fun W h => HE.out W ((HB3.out.trans (HB5.out.mono HB3.out.size)).trans (h.mono (Nat.le_trans HB3.out.size HB5.out.size)))
          have HRC : Hid (∀ W, Below w5.heap.size w5 W → Rc W x) := fun W h => HG5.out.rc.below h (Nat.le_refl _)
          have HBD := Lib.hid HG5.out.bnd
          have h40 : Hid (x.c.keys.length ≤ 40 ∧ x.c.tags.length ≤ 40) := ⟨HG5.out.tiny.keys, HG5.out.tiny.tags⟩
          have HV : Hid (∀ W, Below w5.heap.size w5 W → Calls Tryd.prog 12 #[comV x] W (boolOf (validG x.c) W)) := fun W h => by
            have q := Qjc.rvalid_any x W (HRC.out W h) HBD.out
            rw [valid_same] at q; exact q
          have HV2 : Hid (∀ W, Below w5.heap.size w5 W → Calls Tryd.prog 11 #[comV x] W (boolOf (validG x.c) W)) := fun W h => valid_any x W (HEW.out W h) (HRC.out W h) HBD.out
          have HRW : Hid (∀ W, Below w5.heap.size w5 W → Calls Tryd.prog 23 #[comV x] W (rwPost W x)) := fun W h => rwr_any x W (HRC.out W h) HBD.out ⟨h40.out.2, h40.out.1⟩
          have HOP := Lib.hid HG5.out.op
          have HM : Hid (x.c.op % 256 = x.c.op) := by have := HOP.out; show _ = _; omega
          have HCU := Lib.hid (codeU_int HOP.out)
          have HPL : Hid ((payR x.c).length ≤ 2000000) := by have := pay_len HG5.out.tiny; show _ ≤ _; omega
          have HNO := Lib.hid HG5.out.no
          have HSM : Hid (Small x.c) := ⟨HG5.out.tiny.life, HG5.out.tiny.version⟩
          unfold comV at HV HV2 HRW
          unfold rwPost at HRW
          obtain ⟨c0, c1, c2, c3, c4, c5, c6, c7, c8, c9, _⟩ := HX5.out
          cases hv : validG x.c
          · have HW2 : Hid (∀ W, Below w5.heap.size w5 W → Calls Tryd.prog 19 #[comV x, .agg #[.int .u8 0, .slice none 0 0], .int .i64 2] W (boolOf true W)) := fun W h =>
              writes_at x 0 none [] 0 0 2 0 W rfl rfl (HEW.out W h) (HRC.out W h) HBD.out h40.out.1 h40.out.2 (Rb.nil _ _) (wr_no hv)
            have HR2 : Hid (∀ W A k, Below w5.heap.size w5 W → Rb W A (payR x.c) → Calls Tryd.prog 25 #[.agg #[.int .u8 (x.c.op % 256), .slice A (payR x.c).length k], .agg #[.int .i64 0, .string ⟨#[]⟩, .slice none 0 0, .slice none 0 0, .slice none 0 0, .int .u64 0, .int .u64 0, .string ⟨#[]⟩, .string ⟨#[]⟩, .string ⟨#[]⟩], .int .i64 6] W (boolOf true W)) := fun W A k h hA =>
              reads_at (codeU x.c.op) A (payR x.c) _ k _ W rfl (by rw [HM.out]; exact HCU.out) (HEW.out W h) hA HPL.out (by rw [HCU.out, HNO.out hv]; rfl)
            unfold comV at HW2
            rw [hv] at HV HV2
            clear hv
            go_wp2_with fail
            refine (HV.out _ (Below.refl _ _)).mono ?_
            rintro e w6 ⟨rfl, b6⟩
            have HB6 := Lib.hid b6
            have HX6 := Lib.hid (HX5.out.below b6 (Nat.le_refl _))
            clear b6 c0 c1 c2 c3 c4 c5 c6 c7 c8 c9
            obtain ⟨c0, c1, c2, c3, c4, c5, c6, c7, c8, c9, _⟩ := HX6.out
            go_wp2_with fail
            refine (HV2.out _ HB6.out).mono ?_
            rintro e w7 ⟨rfl, b7⟩
            have HB7 := Lib.hid (HB6.out.trans (b7.mono HB6.out.size))
            have HX7 := Lib.hid (HX6.out.below b7 (Nat.le_refl _))
            clear b7 c0 c1 c2 c3 c4 c5 c6 c7 c8 c9
            obtain ⟨c0, c1, c2, c3, c4, c5, c6, c7, c8, c9, _⟩ := HX7.out
            go_wp2_with fail
            refine (HW2.out _ HB7.out).mono ?_
            rintro e w8 ⟨rfl, b8⟩
            have HB8 := Lib.hid (HB7.out.trans (b8.mono HB7.out.size))
            have HX8 := Lib.hid (HX7.out.below b8 (Nat.le_refl _))
            clear b8 c0 c1 c2 c3 c4 c5 c6 c7 c8 c9
            obtain ⟨c0, c1, c2, c3, c4, c5, c6, c7, c8, c9, _⟩ := HX8.out
            go_wp2_with fail
            with_reducible refine (HRW.out _ HB8.out).mono ?_
            rintro e w9 ⟨A, d, rfl, hf, b9⟩
            have HB9 := Lib.hid (HB8.out.trans (b9.mono HB8.out.size))
            have HF9 := Lib.hid hf.rd
            clear b9 hf c0 c1 c2 c3 c4 c5 c6 c7 c8 c9
            go_wp2_with fail
            refine (HR2.out _ A d HB9.out HF9.out).mono ?_
            rintro e wa ⟨rfl, ba⟩
            have HBa := Lib.hid (HB9.out.trans (ba.mono HB9.out.size))
            clear ba
            go_wp2_with fail
            go_roundw
            case rel => exact ⟨0 + 1, by omega, by go_num, HB5.out.trans (HBa.out.mono HB5.out.size)⟩
            case measure => simp [intOf]
          · have HW2 : Hid (∀ W A k, Below w5.heap.size w5 W → Rb W A (payR x.c) → Calls Tryd.prog 19 #[comV x, .agg #[.int .u8 (x.c.op % 256), .slice A (payR x.c).length k], .int .i64 0] W (boolOf true W)) := fun W A k h hA =>
              writes_at x (codeU x.c.op) A (payR x.c) _ k 0 _ W rfl (by rw [HM.out]; exact HCU.out) (HEW.out W h) (HRC.out W h) HBD.out h40.out.1 h40.out.2 hA (wr_yes hv HCU.out.symm rfl)
            have HR2 : Hid (∀ W A k, Below w5.heap.size w5 W → Rb W A (payR x.c) → Calls Tryd.prog 25 #[.agg #[.int .u8 (x.c.op % 256), .slice A (payR x.c).length k], comV x, .int .i64 0] W (boolOf true W)) := fun W A k h hA => by
              have q := reads_any (codeU x.c.op) A (payR x.c) k x 0 W (HEW.out W h) hA HPL.out (HRC.out W h) HBD.out
              rw [HCU.out, rd_back HSM.out hv] at q
              rw [HM.out]; exact q
            unfold comV at HW2 HR2
            rw [hv] at HV HV2
            clear hv
            go_wp2_with fail
            refine (HV.out _ (Below.refl _ _)).mono ?_
            rintro e w6 ⟨rfl, b6⟩
            have HB6 := Lib.hid b6
            have HX6 := Lib.hid (HX5.out.below b6 (Nat.le_refl _))
            clear b6 c0 c1 c2 c3 c4 c5 c6 c7 c8 c9
            have k0 : ∀ u, Below w6.heap.size w6 u → u.cell? ⟨D, 0, none⟩ = some (.int .i64 x.c.op) := fun u h => (HX6.out.below h (Nat.le_refl _)).c0
            have k1 : ∀ u, Below w6.heap.size w6 u → u.cell? ⟨D, 1, none⟩ = some (.string ⟨x.c.key.toArray⟩) := fun u h => (HX6.out.below h (Nat.le_refl _)).c1
            have k2 : ∀ u, Below w6.heap.size w6 u → u.cell? ⟨D, 2, none⟩ = some (.slice x.KA x.c.keys.length x.kc) := fun u h => (HX6.out.below h (Nat.le_refl _)).c2
            have k3 : ∀ u, Below w6.heap.size w6 u → u.cell? ⟨D, 3, none⟩ = some (.slice x.VA x.c.value.length x.vc) := fun u h => (HX6.out.below h (Nat.le_refl _)).c3
            have k4 : ∀ u, Below w6.heap.size w6 u → u.cell? ⟨D, 4, none⟩ = some (.slice x.TA x.c.tags.length x.tc) := fun u h => (HX6.out.below h (Nat.le_refl _)).c4
            have k5 : ∀ u, Below w6.heap.size w6 u → u.cell? ⟨D, 5, none⟩ = some (.int .u64 (x.c.life : Int)) := fun u h => (HX6.out.below h (Nat.le_refl _)).c5
            have k6 : ∀ u, Below w6.heap.size w6 u → u.cell? ⟨D, 6, none⟩ = some (.int .u64 (x.c.version : Int)) := fun u h => (HX6.out.below h (Nat.le_refl _)).c6
            have k7 : ∀ u, Below w6.heap.size w6 u → u.cell? ⟨D, 7, none⟩ = some (.string ⟨x.c.tag.toArray⟩) := fun u h => (HX6.out.below h (Nat.le_refl _)).c7
            have k8 : ∀ u, Below w6.heap.size w6 u → u.cell? ⟨D, 8, none⟩ = some (.string ⟨x.c.pre.toArray⟩) := fun u h => (HX6.out.below h (Nat.le_refl _)).c8
            have k9 : ∀ u, Below w6.heap.size w6 u → u.cell? ⟨D, 9, none⟩ = some (.string ⟨x.c.child.toArray⟩) := fun u h => (HX6.out.below h (Nat.le_refl _)).c9
            have T6 : Hid (∀ W, Below w6.heap.size w6 W → Below w5.heap.size w5 W) := fun W h => HB6.out.trans (h.mono HB6.out.size)
            generalize x.c.op % 256 = cm at *
            clear HM
            go_wp2_with fail
            refine wp_region_noPanic ?_
            refine wp_region_held_drew (S := fun u => Below w6.heap.size w6 u) (by kernel_rfl) ((Below.refl _ _).drew) (fun hHeld => ?_)
            refine wpAnyH_take (i := 0) (oi := ⟨some 76, _, _, _, _, _⟩) (v := ?_) rfl (by kernel_rfl) (by kernel_rfl) (by kernel_rfl) (fun _ _ _ h => h) (Or.inl ⟨by rfl, ?_⟩) (by assumption) ?_
            rotate_left
            · intro w hSw; go_simp; first | done | with_reducible rfl
            try simp only [Act.put, List.setIfInBounds_toArray, List.set_cons_zero, List.set_cons_succ]
            refine wpAnyH_ready (rs := [1]) (by kernel_rfl) (by simp) ?_
            refine AllReadyH.cons (o := ⟨some 77, _, _, _, _, _⟩) rfl (fun K hK => ?_) AllReadyH.nil
            go_simp
            with_reducible refine (HV2.out _ (T6.out _ hHeld)).mono ?_
            rintro e u1 ⟨rfl, b1⟩
            have HU1 : Hid (Below w6.heap.size w6 u1) := hHeld.trans (b1.mono hHeld.size)
            clear b1
            go_simp
            refine hK.out _ _ (HU1.out) (fun hHeld => ?_)
            clear hK K
            try simp only [Act.put, List.setIfInBounds_toArray, List.set_cons_zero, List.set_cons_succ]
            refine wpAnyH_take (i := 2) (oi := ⟨some 78, _, _, _, _, _⟩) (v := ?_) rfl (by kernel_rfl) (by kernel_rfl) (by kernel_rfl) (fun _ _ _ h => h) (Or.inl ⟨by rfl, ?_⟩) (by assumption) ?_
            rotate_left
            · intro w hSw; go_simp; first | done | with_reducible rfl
            try simp only [Act.put, List.setIfInBounds_toArray, List.set_cons_zero, List.set_cons_succ]
            refine wpAnyH_take (i := 3) (oi := ⟨some 79, _, _, _, _, _⟩) (v := ?_) rfl (by kernel_rfl) (by kernel_rfl) (by kernel_rfl) (fun _ _ _ h => h) (Or.inl ⟨by rfl, ?_⟩) (by assumption) ?_
            rotate_left
            · intro w hSw; go_simp; first | done | with_reducible rfl
            try simp only [Act.put, List.setIfInBounds_toArray, List.set_cons_zero, List.set_cons_succ]
            refine wpAnyH_take (i := 4) (oi := ⟨some 80, _, _, _, _, _⟩) (v := ?_) rfl (by kernel_rfl) (by kernel_rfl) (by kernel_rfl) (fun _ _ _ h => h) (Or.inl ⟨by rfl, ?_⟩) (by assumption) ?_
            rotate_left
            · intro w hSw; go_simp; first | done | with_reducible rfl
            try simp only [Act.put, List.setIfInBounds_toArray, List.set_cons_zero, List.set_cons_succ]
            refine wpAnyH_take (i := 5) (oi := ⟨some 81, _, _, _, _, _⟩) (v := ?_) rfl (by kernel_rfl) (by kernel_rfl) (by kernel_rfl) (fun _ _ _ h => h) (Or.inl ⟨by rfl, ?_⟩) (by assumption) ?_
            rotate_left
            · intro w hSw; go_simp; first | done | with_reducible rfl
            try simp only [Act.put, List.setIfInBounds_toArray, List.set_cons_zero, List.set_cons_succ]
            refine wpAnyH_ready (rs := [6]) (by kernel_rfl) (by simp) ?_
            refine AllReadyH.cons (o := ⟨some 82, _, _, _, _, _⟩) rfl (fun K hK => ?_) AllReadyH.nil
            go_simp
            with_reducible refine (HRW.out _ (T6.out _ hHeld)).mono ?_
            rintro e u2 ⟨A, d, rfl, hf, b2⟩
            have HU2 : Hid (Below w6.heap.size w6 u2) := hHeld.trans (b2.mono hHeld.size)
            have HW3 := Lib.hid (HW2.out u2 A d (T6.out _ HU2.out) hf.rd)
            clear b2 hf
            go_simp
            refine hK.out _ _ (HU2.out) (fun hHeld => ?_)
            clear hK K
            try simp only [Act.put, List.setIfInBounds_toArray, List.set_cons_zero, List.set_cons_succ]
            refine wpAnyH_ready (rs := [7]) (by kernel_rfl) (by simp) ?_
            refine AllReadyH.cons (o := ⟨some 83, _, _, _, _, _⟩) rfl (fun K hK => ?_) AllReadyH.nil
            go_simp
            with_reducible refine (HW3.out).mono ?_
            rintro e u3 ⟨rfl, b3⟩
            have HU3 : Hid (Below w6.heap.size w6 u3) := hHeld.trans (b3.mono hHeld.size)
            clear b3
            go_simp
            refine hK.out _ _ (HU3.out) (fun hHeld => ?_)
            clear hK K
            try simp only [Act.put, List.setIfInBounds_toArray, List.set_cons_zero, List.set_cons_succ]
            refine wpAnyH_take (i := 8) (oi := ⟨some 84, _, _, _, _, _⟩) (v := ?_) rfl (by kernel_rfl) (by kernel_rfl) (by kernel_rfl) (fun _ _ _ h => h) (Or.inl ⟨by rfl, ?_⟩) (by assumption) ?_
            rotate_left
            · intro w hSw; go_simp; first | done | with_reducible rfl
            try simp only [Act.put, List.setIfInBounds_toArray, List.set_cons_zero, List.set_cons_succ]
            refine wpAnyH_take (i := 9) (oi := ⟨some 85, _, _, _, _, _⟩) (v := ?_) rfl (by kernel_rfl) (by kernel_rfl) (by kernel_rfl) (fun _ _ _ h => h) (Or.inl ⟨by rfl, ?_⟩) (by assumption) ?_
            rotate_left
            · intro w hSw; go_simp; first | done | with_reducible rfl
            try simp only [Act.put, List.setIfInBounds_toArray, List.set_cons_zero, List.set_cons_succ]
            refine wpAnyH_take (i := 10) (oi := ⟨some 86, _, _, _, _, _⟩) (v := ?_) rfl (by kernel_rfl) (by kernel_rfl) (by kernel_rfl) (fun _ _ _ h => h) (Or.inl ⟨by rfl, ?_⟩) (by assumption) ?_
            rotate_left
            · intro w hSw; go_simp; first | done | with_reducible rfl
            try simp only [Act.put, List.setIfInBounds_toArray, List.set_cons_zero, List.set_cons_succ]
            refine wpAnyH_take (i := 11) (oi := ⟨some 87, _, _, _, _, _⟩) (v := ?_) rfl (by kernel_rfl) (by kernel_rfl) (by kernel_rfl) (fun _ _ _ h => h) (Or.inl ⟨by rfl, ?_⟩) (by assumption) ?_
            rotate_left
            · intro w hSw; go_simp; first | done | with_reducible rfl
            try simp only [Act.put, List.setIfInBounds_toArray, List.set_cons_zero, List.set_cons_succ]
            refine wpAnyH_take (i := 13) (oi := ⟨some 89, _, _, _, _, _⟩) (v := ?_) rfl (by kernel_rfl) (by kernel_rfl) (by kernel_rfl) (fun _ _ _ h => h) (Or.inl ⟨by rfl, ?_⟩) (by assumption) ?_
            rotate_left
            · intro w hSw; go_simp; first | done | with_reducible rfl
            try simp only [Act.put, List.setIfInBounds_toArray, List.set_cons_zero, List.set_cons_succ]
            refine wpAnyH_ready (rs := [12]) (by kernel_rfl) (by simp) ?_
            refine AllReadyH.cons (o := ⟨some 88, _, _, _, _, _⟩) rfl (fun K hK => ?_) AllReadyH.nil
            go_simp
            with_reducible refine (HRW.out _ (T6.out _ hHeld)).mono ?_
            rintro e u4 ⟨A4, d4, rfl, hf, b4⟩
            have HU4 : Hid (Below w6.heap.size w6 u4) := hHeld.trans (b4.mono hHeld.size)
            have HR3 := Lib.hid (HR2.out u4 A4 d4 (T6.out _ HU4.out) hf.rd)
            clear b4 hf
            go_simp
            refine hK.out _ _ (HU4.out) (fun hHeld => ?_)
            clear hK K
            try simp only [Act.put, List.setIfInBounds_toArray, List.set_cons_zero, List.set_cons_succ]
            refine wpAnyH_ready (rs := [14]) (by kernel_rfl) (by simp) ?_
            refine AllReadyH.cons (o := ⟨some 90, _, _, _, _, _⟩) rfl (fun K hK => ?_) AllReadyH.nil
            go_simp
            with_reducible refine (HR3.out).mono ?_
            rintro e u5 ⟨rfl, b5⟩
            have HU5 : Hid (Below w6.heap.size w6 u5) := hHeld.trans (b5.mono hHeld.size)
            clear b5
            go_simp
            refine hK.out _ _ (HU5.out) (fun hHeld => ?_)
            clear hK K
            try simp only [Act.put, List.setIfInBounds_toArray, List.set_cons_zero, List.set_cons_succ]
            refine wpAnyH_take (i := 15) (oi := ⟨some 91, _, _, _, _, _⟩) (v := ?_) rfl (by kernel_rfl) (by kernel_rfl) (by kernel_rfl) (fun _ _ _ h => h) (Or.inl ⟨by rfl, ?_⟩) (by assumption) ?_
            rotate_left
            · intro w hSw; go_simp; first | done | with_reducible rfl
            try simp only [Act.put, List.setIfInBounds_toArray, List.set_cons_zero, List.set_cons_succ]
            refine wpAnyH_take (i := 16) (oi := ⟨some 92, _, _, _, _, _⟩) (v := ?_) rfl (by kernel_rfl) (by kernel_rfl) (by kernel_rfl) (fun _ _ _ h => h) (Or.inl ⟨by rfl, ?_⟩) (by assumption) ?_
            rotate_left
            · intro w hSw; go_simp; first | done | with_reducible rfl
            try simp only [Act.put, List.setIfInBounds_toArray, List.set_cons_zero, List.set_cons_succ]
            refine wpAnyH_done (by kernel_rfl) ?_ _
            refine NoPanic.normal ?_
            go_wp2_with fail
            go_roundw
            case rel => exact ⟨0 + 1, by omega, by go_num, HB5.out.trans ((T6.out _ HU5.out).mono HB5.out.size)⟩
            case measure => simp [intOf]
        · have s0 := r10.out w4 HB4.out
          have s1 := r11.out w4 HB4.out
          have s2 := r12.out w4 HB4.out
          have s3 := r13.out w4 HB4.out
          have s4 := r14.out w4 HB4.out
          have s5 := r15.out w4 HB4.out
          have s6 := r16.out w4 HB4.out
          have s7 := r17.out w4 HB4.out
          have s8 := r18.out w4 HB4.out
          have s9 := r19.out w4 HB4.out
          go_upto_region 13 with fail
          obtain ⟨w5, hw5⟩ : ∃ w5, w5 = w4.alloc (comO y) := ⟨_, rfl⟩
          have b5 : Below w4.heap.size w4 w5 := by rw [hw5]; exact alloc_below _ _
          have HX5 : Hid (Box w5 w4.heap.size y) := by show Box _ _ _; rw [hw5]; exact Box.new w4 y
          have HB5 := Lib.hid (HB4.out.trans (b5.mono HB4.out.size))
          have HG5 := Lib.hid (HGY.out.below HB5.out (Nat.le_refl _))
          obtain ⟨D, hD⟩ : ∃ D, D = w4.heap.size := ⟨_, rfl⟩
          unfold comO at hw5
          rw [← hD] at HX5
          rw [← hw5, ← hD]
          clear hw5 b5 hD s0 s1 s2 s3 s4 s5 s6 s7 s8 s9
          have HEW : Hid (∀ W, Below w5.heap.size w5 W → Env W) := fun W h => HE.out W ((HB3.out.trans (HB5.out.mono HB3.out.size)).trans (h.mono (Nat.le_trans HB3.out.size HB5.out.size)))
          have HRC : Hid (∀ W, Below w5.heap.size w5 W → Rc W y) := fun W h => HG5.out.rc.below h (Nat.le_refl _)
          have HBD := Lib.hid HG5.out.bnd
          have h40 : Hid (y.c.keys.length ≤ 40 ∧ y.c.tags.length ≤ 40) := ⟨HG5.out.tiny.keys, HG5.out.tiny.tags⟩
          have HV : Hid (∀ W, Below w5.heap.size w5 W → Calls Tryd.prog 12 #[comV y] W (boolOf (validG y.c) W)) := fun W h => by
            have q := Qjc.rvalid_any y W (HRC.out W h) HBD.out
            rw [valid_same] at q; exact q
          have HV2 : Hid (∀ W, Below w5.heap.size w5 W → Calls Tryd.prog 11 #[comV y] W (boolOf (validG y.c) W)) := fun W h => valid_any y W (HEW.out W h) (HRC.out W h) HBD.out
          have HRW : Hid (∀ W, Below w5.heap.size w5 W → Calls Tryd.prog 23 #[comV y] W (rwPost W y)) := fun W h => rwr_any y W (HRC.out W h) HBD.out ⟨h40.out.2, h40.out.1⟩
          have HOP := Lib.hid HG5.out.op
          have HM : Hid (y.c.op % 256 = y.c.op) := by have := HOP.out; show _ = _; omega
          have HCU := Lib.hid (codeU_int HOP.out)
          have HPL : Hid ((payR y.c).length ≤ 2000000) := by have := pay_len HG5.out.tiny; show _ ≤ _; omega
          have HNO := Lib.hid HG5.out.no
          have HSM : Hid (Small y.c) := ⟨HG5.out.tiny.life, HG5.out.tiny.version⟩
          unfold comV at HV HV2 HRW
          unfold rwPost at HRW
          obtain ⟨c0, c1, c2, c3, c4, c5, c6, c7, c8, c9, _⟩ := HX5.out
          cases hv : validG y.c
          · have HW2 : Hid (∀ W, Below w5.heap.size w5 W → Calls Tryd.prog 19 #[comV y, .agg #[.int .u8 0, .slice none 0 0], .int .i64 2] W (boolOf true W)) := fun W h =>
              writes_at y 0 none [] 0 0 2 0 W rfl rfl (HEW.out W h) (HRC.out W h) HBD.out h40.out.1 h40.out.2 (Rb.nil _ _) (wr_no hv)
            have HR2 : Hid (∀ W A k, Below w5.heap.size w5 W → Rb W A (payR y.c) → Calls Tryd.prog 25 #[.agg #[.int .u8 (y.c.op % 256), .slice A (payR y.c).length k], .agg #[.int .i64 0, .string ⟨#[]⟩, .slice none 0 0, .slice none 0 0, .slice none 0 0, .int .u64 0, .int .u64 0, .string ⟨#[]⟩, .string ⟨#[]⟩, .string ⟨#[]⟩], .int .i64 6] W (boolOf true W)) := fun W A k h hA =>
              reads_at (codeU y.c.op) A (payR y.c) _ k _ W rfl (by rw [HM.out]; exact HCU.out) (HEW.out W h) hA HPL.out (by rw [HCU.out, HNO.out hv]; rfl)
            unfold comV at HW2
            rw [hv] at HV HV2
            clear hv
            go_wp2_with fail
            refine (HV.out _ (Below.refl _ _)).mono ?_
            rintro e w6 ⟨rfl, b6⟩
            have HB6 := Lib.hid b6
            have HX6 := Lib.hid (HX5.out.below b6 (Nat.le_refl _))
            clear b6 c0 c1 c2 c3 c4 c5 c6 c7 c8 c9
            obtain ⟨c0, c1, c2, c3, c4, c5, c6, c7, c8, c9, _⟩ := HX6.out
            go_wp2_with fail
            refine (HV2.out _ HB6.out).mono ?_
            rintro e w7 ⟨rfl, b7⟩
            have HB7 := Lib.hid (HB6.out.trans (b7.mono HB6.out.size))
            have HX7 := Lib.hid (HX6.out.below b7 (Nat.le_refl _))
            clear b7 c0 c1 c2 c3 c4 c5 c6 c7 c8 c9
            obtain ⟨c0, c1, c2, c3, c4, c5, c6, c7, c8, c9, _⟩ := HX7.out
            go_wp2_with fail
            refine (HW2.out _ HB7.out).mono ?_
            rintro e w8 ⟨rfl, b8⟩
            have HB8 := Lib.hid (HB7.out.trans (b8.mono HB7.out.size))
            have HX8 := Lib.hid (HX7.out.below b8 (Nat.le_refl _))
            clear b8 c0 c1 c2 c3 c4 c5 c6 c7 c8 c9
            obtain ⟨c0, c1, c2, c3, c4, c5, c6, c7, c8, c9, _⟩ := HX8.out
            go_wp2_with fail
            with_reducible refine (HRW.out _ HB8.out).mono ?_
            rintro e w9 ⟨A, d, rfl, hf, b9⟩
            have HB9 := Lib.hid (HB8.out.trans (b9.mono HB8.out.size))
            have HF9 := Lib.hid hf.rd
            clear b9 hf c0 c1 c2 c3 c4 c5 c6 c7 c8 c9
            go_wp2_with fail
            refine (HR2.out _ A d HB9.out HF9.out).mono ?_
            rintro e wa ⟨rfl, ba⟩
            have HBa := Lib.hid (HB9.out.trans (ba.mono HB9.out.size))
            clear ba
            go_wp2_with fail
            go_roundw
            case rel => exact ⟨1 + 1, by omega, by go_num, HB5.out.trans (HBa.out.mono HB5.out.size)⟩
            case measure => simp [intOf]
          · have HW2 : Hid (∀ W A k, Below w5.heap.size w5 W → Rb W A (payR y.c) → Calls Tryd.prog 19 #[comV y, .agg #[.int .u8 (y.c.op % 256), .slice A (payR y.c).length k], .int .i64 0] W (boolOf true W)) := fun W A k h hA =>
              writes_at y (codeU y.c.op) A (payR y.c) _ k 0 _ W rfl (by rw [HM.out]; exact HCU.out) (HEW.out W h) (HRC.out W h) HBD.out h40.out.1 h40.out.2 hA (wr_yes hv HCU.out.symm rfl)
            have HR2 : Hid (∀ W A k, Below w5.heap.size w5 W → Rb W A (payR y.c) → Calls Tryd.prog 25 #[.agg #[.int .u8 (y.c.op % 256), .slice A (payR y.c).length k], comV y, .int .i64 0] W (boolOf true W)) := fun W A k h hA => by
              have q := reads_any (codeU y.c.op) A (payR y.c) k y 0 W (HEW.out W h) hA HPL.out (HRC.out W h) HBD.out
              rw [HCU.out, rd_back HSM.out hv] at q
              rw [HM.out]; exact q
            unfold comV at HW2 HR2
            rw [hv] at HV HV2
            clear hv
            go_wp2_with fail
            refine (HV.out _ (Below.refl _ _)).mono ?_
            rintro e w6 ⟨rfl, b6⟩
            have HB6 := Lib.hid b6
            have HX6 := Lib.hid (HX5.out.below b6 (Nat.le_refl _))
            clear b6 c0 c1 c2 c3 c4 c5 c6 c7 c8 c9
            have k0 : ∀ u, Below w6.heap.size w6 u → u.cell? ⟨D, 0, none⟩ = some (.int .i64 y.c.op) := fun u h => (HX6.out.below h (Nat.le_refl _)).c0
            have k1 : ∀ u, Below w6.heap.size w6 u → u.cell? ⟨D, 1, none⟩ = some (.string ⟨y.c.key.toArray⟩) := fun u h => (HX6.out.below h (Nat.le_refl _)).c1
            have k2 : ∀ u, Below w6.heap.size w6 u → u.cell? ⟨D, 2, none⟩ = some (.slice y.KA y.c.keys.length y.kc) := fun u h => (HX6.out.below h (Nat.le_refl _)).c2
            have k3 : ∀ u, Below w6.heap.size w6 u → u.cell? ⟨D, 3, none⟩ = some (.slice y.VA y.c.value.length y.vc) := fun u h => (HX6.out.below h (Nat.le_refl _)).c3
            have k4 : ∀ u, Below w6.heap.size w6 u → u.cell? ⟨D, 4, none⟩ = some (.slice y.TA y.c.tags.length y.tc) := fun u h => (HX6.out.below h (Nat.le_refl _)).c4
            have k5 : ∀ u, Below w6.heap.size w6 u → u.cell? ⟨D, 5, none⟩ = some (.int .u64 (y.c.life : Int)) := fun u h => (HX6.out.below h (Nat.le_refl _)).c5
            have k6 : ∀ u, Below w6.heap.size w6 u → u.cell? ⟨D, 6, none⟩ = some (.int .u64 (y.c.version : Int)) := fun u h => (HX6.out.below h (Nat.le_refl _)).c6
            have k7 : ∀ u, Below w6.heap.size w6 u → u.cell? ⟨D, 7, none⟩ = some (.string ⟨y.c.tag.toArray⟩) := fun u h => (HX6.out.below h (Nat.le_refl _)).c7
            have k8 : ∀ u, Below w6.heap.size w6 u → u.cell? ⟨D, 8, none⟩ = some (.string ⟨y.c.pre.toArray⟩) := fun u h => (HX6.out.below h (Nat.le_refl _)).c8
            have k9 : ∀ u, Below w6.heap.size w6 u → u.cell? ⟨D, 9, none⟩ = some (.string ⟨y.c.child.toArray⟩) := fun u h => (HX6.out.below h (Nat.le_refl _)).c9
            have T6 : Hid (∀ W, Below w6.heap.size w6 W → Below w5.heap.size w5 W) := fun W h => HB6.out.trans (h.mono HB6.out.size)
            generalize y.c.op % 256 = cm at *
            clear HM
            go_wp2_with fail
            refine wp_region_noPanic ?_
            refine wp_region_held_drew (S := fun u => Below w6.heap.size w6 u) (by kernel_rfl) ((Below.refl _ _).drew) (fun hHeld => ?_)
            refine wpAnyH_take (i := 0) (oi := ⟨some 76, _, _, _, _, _⟩) (v := ?_) rfl (by kernel_rfl) (by kernel_rfl) (by kernel_rfl) (fun _ _ _ h => h) (Or.inl ⟨by rfl, ?_⟩) (by assumption) ?_
            rotate_left
            · intro w hSw; go_simp; first | done | with_reducible rfl
            try simp only [Act.put, List.setIfInBounds_toArray, List.set_cons_zero, List.set_cons_succ]
            refine wpAnyH_ready (rs := [1]) (by kernel_rfl) (by simp) ?_
            refine AllReadyH.cons (o := ⟨some 77, _, _, _, _, _⟩) rfl (fun K hK => ?_) AllReadyH.nil
            go_simp
            with_reducible refine (HV2.out _ (T6.out _ hHeld)).mono ?_
            rintro e u1 ⟨rfl, b1⟩
            have HU1 : Hid (Below w6.heap.size w6 u1) := hHeld.trans (b1.mono hHeld.size)
            clear b1
            go_simp
            refine hK.out _ _ (HU1.out) (fun hHeld => ?_)
            clear hK K
            try simp only [Act.put, List.setIfInBounds_toArray, List.set_cons_zero, List.set_cons_succ]
            refine wpAnyH_take (i := 2) (oi := ⟨some 78, _, _, _, _, _⟩) (v := ?_) rfl (by kernel_rfl) (by kernel_rfl) (by kernel_rfl) (fun _ _ _ h => h) (Or.inl ⟨by rfl, ?_⟩) (by assumption) ?_
            rotate_left
            · intro w hSw; go_simp; first | done | with_reducible rfl
            try simp only [Act.put, List.setIfInBounds_toArray, List.set_cons_zero, List.set_cons_succ]
            refine wpAnyH_take (i := 3) (oi := ⟨some 79, _, _, _, _, _⟩) (v := ?_) rfl (by kernel_rfl) (by kernel_rfl) (by kernel_rfl) (fun _ _ _ h => h) (Or.inl ⟨by rfl, ?_⟩) (by assumption) ?_
            rotate_left
            · intro w hSw; go_simp; first | done | with_reducible rfl
            try simp only [Act.put, List.setIfInBounds_toArray, List.set_cons_zero, List.set_cons_succ]
            refine wpAnyH_take (i := 4) (oi := ⟨some 80, _, _, _, _, _⟩) (v := ?_) rfl (by kernel_rfl) (by kernel_rfl) (by kernel_rfl) (fun _ _ _ h => h) (Or.inl ⟨by rfl, ?_⟩) (by assumption) ?_
            rotate_left
            · intro w hSw; go_simp; first | done | with_reducible rfl
            try simp only [Act.put, List.setIfInBounds_toArray, List.set_cons_zero, List.set_cons_succ]
            refine wpAnyH_take (i := 5) (oi := ⟨some 81, _, _, _, _, _⟩) (v := ?_) rfl (by kernel_rfl) (by kernel_rfl) (by kernel_rfl) (fun _ _ _ h => h) (Or.inl ⟨by rfl, ?_⟩) (by assumption) ?_
            rotate_left
            · intro w hSw; go_simp; first | done | with_reducible rfl
            try simp only [Act.put, List.setIfInBounds_toArray, List.set_cons_zero, List.set_cons_succ]
            refine wpAnyH_ready (rs := [6]) (by kernel_rfl) (by simp) ?_
            refine AllReadyH.cons (o := ⟨some 82, _, _, _, _, _⟩) rfl (fun K hK => ?_) AllReadyH.nil
            go_simp
            with_reducible refine (HRW.out _ (T6.out _ hHeld)).mono ?_
            rintro e u2 ⟨A, d, rfl, hf, b2⟩
            have HU2 : Hid (Below w6.heap.size w6 u2) := hHeld.trans (b2.mono hHeld.size)
            have HW3 := Lib.hid (HW2.out u2 A d (T6.out _ HU2.out) hf.rd)
            clear b2 hf
            go_simp
            refine hK.out _ _ (HU2.out) (fun hHeld => ?_)
            clear hK K
            try simp only [Act.put, List.setIfInBounds_toArray, List.set_cons_zero, List.set_cons_succ]
            refine wpAnyH_ready (rs := [7]) (by kernel_rfl) (by simp) ?_
            refine AllReadyH.cons (o := ⟨some 83, _, _, _, _, _⟩) rfl (fun K hK => ?_) AllReadyH.nil
            go_simp
            with_reducible refine (HW3.out).mono ?_
            rintro e u3 ⟨rfl, b3⟩
            have HU3 : Hid (Below w6.heap.size w6 u3) := hHeld.trans (b3.mono hHeld.size)
            clear b3
            go_simp
            refine hK.out _ _ (HU3.out) (fun hHeld => ?_)
            clear hK K
            try simp only [Act.put, List.setIfInBounds_toArray, List.set_cons_zero, List.set_cons_succ]
            refine wpAnyH_take (i := 8) (oi := ⟨some 84, _, _, _, _, _⟩) (v := ?_) rfl (by kernel_rfl) (by kernel_rfl) (by kernel_rfl) (fun _ _ _ h => h) (Or.inl ⟨by rfl, ?_⟩) (by assumption) ?_
            rotate_left
            · intro w hSw; go_simp; first | done | with_reducible rfl
            try simp only [Act.put, List.setIfInBounds_toArray, List.set_cons_zero, List.set_cons_succ]
            refine wpAnyH_take (i := 9) (oi := ⟨some 85, _, _, _, _, _⟩) (v := ?_) rfl (by kernel_rfl) (by kernel_rfl) (by kernel_rfl) (fun _ _ _ h => h) (Or.inl ⟨by rfl, ?_⟩) (by assumption) ?_
            rotate_left
            · intro w hSw; go_simp; first | done | with_reducible rfl
            try simp only [Act.put, List.setIfInBounds_toArray, List.set_cons_zero, List.set_cons_succ]
            refine wpAnyH_take (i := 10) (oi := ⟨some 86, _, _, _, _, _⟩) (v := ?_) rfl (by kernel_rfl) (by kernel_rfl) (by kernel_rfl) (fun _ _ _ h => h) (Or.inl ⟨by rfl, ?_⟩) (by assumption) ?_
            rotate_left
            · intro w hSw; go_simp; first | done | with_reducible rfl
            try simp only [Act.put, List.setIfInBounds_toArray, List.set_cons_zero, List.set_cons_succ]
            refine wpAnyH_take (i := 11) (oi := ⟨some 87, _, _, _, _, _⟩) (v := ?_) rfl (by kernel_rfl) (by kernel_rfl) (by kernel_rfl) (fun _ _ _ h => h) (Or.inl ⟨by rfl, ?_⟩) (by assumption) ?_
            rotate_left
            · intro w hSw; go_simp; first | done | with_reducible rfl
            try simp only [Act.put, List.setIfInBounds_toArray, List.set_cons_zero, List.set_cons_succ]
            refine wpAnyH_take (i := 13) (oi := ⟨some 89, _, _, _, _, _⟩) (v := ?_) rfl (by kernel_rfl) (by kernel_rfl) (by kernel_rfl) (fun _ _ _ h => h) (Or.inl ⟨by rfl, ?_⟩) (by assumption) ?_
            rotate_left
            · intro w hSw; go_simp; first | done | with_reducible rfl
            try simp only [Act.put, List.setIfInBounds_toArray, List.set_cons_zero, List.set_cons_succ]
            refine wpAnyH_ready (rs := [12]) (by kernel_rfl) (by simp) ?_
            refine AllReadyH.cons (o := ⟨some 88, _, _, _, _, _⟩) rfl (fun K hK => ?_) AllReadyH.nil
            go_simp
            with_reducible refine (HRW.out _ (T6.out _ hHeld)).mono ?_
            rintro e u4 ⟨A4, d4, rfl, hf, b4⟩
            have HU4 : Hid (Below w6.heap.size w6 u4) := hHeld.trans (b4.mono hHeld.size)
            have HR3 := Lib.hid (HR2.out u4 A4 d4 (T6.out _ HU4.out) hf.rd)
            clear b4 hf
            go_simp
            refine hK.out _ _ (HU4.out) (fun hHeld => ?_)
            clear hK K
            try simp only [Act.put, List.setIfInBounds_toArray, List.set_cons_zero, List.set_cons_succ]
            refine wpAnyH_ready (rs := [14]) (by kernel_rfl) (by simp) ?_
            refine AllReadyH.cons (o := ⟨some 90, _, _, _, _, _⟩) rfl (fun K hK => ?_) AllReadyH.nil
            go_simp
            with_reducible refine (HR3.out).mono ?_
            rintro e u5 ⟨rfl, b5⟩
            have HU5 : Hid (Below w6.heap.size w6 u5) := hHeld.trans (b5.mono hHeld.size)
            clear b5
            go_simp
            refine hK.out _ _ (HU5.out) (fun hHeld => ?_)
            clear hK K
            try simp only [Act.put, List.setIfInBounds_toArray, List.set_cons_zero, List.set_cons_succ]
            refine wpAnyH_take (i := 15) (oi := ⟨some 91, _, _, _, _, _⟩) (v := ?_) rfl (by kernel_rfl) (by kernel_rfl) (by kernel_rfl) (fun _ _ _ h => h) (Or.inl ⟨by rfl, ?_⟩) (by assumption) ?_
            rotate_left
            · intro w hSw; go_simp; first | done | with_reducible rfl
            try simp only [Act.put, List.setIfInBounds_toArray, List.set_cons_zero, List.set_cons_succ]
            refine wpAnyH_take (i := 16) (oi := ⟨some 92, _, _, _, _, _⟩) (v := ?_) rfl (by kernel_rfl) (by kernel_rfl) (by kernel_rfl) (fun _ _ _ h => h) (Or.inl ⟨by rfl, ?_⟩) (by assumption) ?_
            rotate_left
            · intro w hSw; go_simp; first | done | with_reducible rfl
            try simp only [Act.put, List.setIfInBounds_toArray, List.set_cons_zero, List.set_cons_succ]
            refine wpAnyH_done (by kernel_rfl) ?_ _
            refine NoPanic.normal ?_
            go_wp2_with fail
            go_roundw
            case rel => exact ⟨1 + 1, by omega, by go_num, HB5.out.trans ((T6.out _ HU5.out).mono HB5.out.size)⟩
            case measure => simp [intOf]
        · have HB4W := Lib.hid (HB3.out.trans (HB4.out.mono HB3.out.size))
          go_wp2_with fail
          refine (HK.out _ HB4W.out).mono ?_
          rintro e w5 ⟨rfl, b5⟩
          have HB5 := Lib.hid (HB4W.out.trans (b5.mono HB4W.out.size))
          clear b5
          go_wp2_with fail
          go_ret
          exact ⟨rfl, HB5.out⟩
theorem longs_walk (more parts : Int) (w : World) (he : Env w) (_ : -9223372036854775808 ≤ more) (_ : more ≤ 9223372036854775807) (_ : -9223372036854775808 ≤ parts) (_ : parts ≤ 9223372036854775807) : Calls Tryd.prog 7 #[.int .i64 more, .int .i64 parts] w (boolOf true w) := by
  by_cases h : more < -2 ∨ 2 < more ∨ parts < -2 ∨ 2 < parts
  · exact longs_over more parts w he h
  · exact longs_main more parts w he (by omega) (by omega) (by omega) (by omega)
end Go.Proofs.YtefadkdngcbpiaaDoor.Qzi
