/- Proves what the store's Find, Use, Remove, Touch, Next, Used and Budget return, and what they leave in memory. Conditions: as each theorem names them. -/
import Derived.Test.YtlmljhnogmfcfaaGreatIp
namespace Go.Proofs.YtlmljhnogmfcfaaGreat.Ep
open Go.RowKit Ap Mi Nw Ea Eb Ec Ed Ee El Ia Ib Ic Ik Ie If Ig

theorem Gave.none {F F' P : Nat → Prop} {w w' : World} {g : Nat} {s : Sx} (h : Gave F w w' g s F' P) : Gave F w w' g s F' (fun _ => False) := ⟨h.s, h.f, fun _ hf => hf.elim, fun _ hf => hf.elim, h.o⟩
theorem emL_setD : ∀ (E : List Em) (k : Nat) (d : Int), k < E.length → (emL E).set (k * 6 + 3) (.int .u64 d) = emL (E.modify k fun x => { x with e := { x.e with d := d } })
 | [], _, _, h => by simp at h
 | y :: r, 0, d, _ => by rw [List.modify_zero_cons, emL_cons, emL_cons]; rfl
 | y :: r, k + 1, d, h => by
  rw [List.modify_succ_cons, emL_cons, emL_cons, ← emL_setD r k d (by simpa using h)]
  have e : (k + 1) * 6 + 3 = (k * 6 + 3) + 1 + 1 + 1 + 1 + 1 + 1 := by omega
  rw [e]; rfl
theorem nextT_le : ∀ (l : List En) (t : Int), l.foldl (fun t x => min t x.d) t ≤ t ∧ (∀ x ∈ l, l.foldl (fun t x => min t x.d) t ≤ x.d) ∧ (l.foldl (fun t x => min t x.d) t = t ∨ ∃ x ∈ l, l.foldl (fun t x => min t x.d) t = x.d)
 | [], t => ⟨Int.le_refl _, (fun _ h => by cases h), Or.inl rfl⟩
 | y :: r, t => by
  obtain ⟨h1, h2, h3⟩ := nextT_le r (min t y.d)
  rw [List.foldl_cons]
  refine ⟨by omega, fun x hx => ?_, ?_⟩
  ·rcases List.mem_cons.1 hx with rfl | hx
   ·omega
   ·exact h2 x hx
  ·rcases h3 with h3 | ⟨x, hx, h3⟩
   ·rcases Int.le_total t y.d with h | h
    ·exact Or.inl (by rw [h3]; omega)
    ·exact Or.inr ⟨y, by simp, by rw [h3]; omega⟩
   ·exact Or.inr ⟨x, by simp [hx], h3⟩
theorem next_is {p : Nat → Nat} {w : World} {g : Nat} {s : Sx} {ns : List Nat} {q : Ptr} {c : Ct} (h : Bt (fun _ => True) 0 0 p w g s ns q c) (hS : Yc.Srt c.h) :
  (c.h = [] ∧ nextT s.l = 18446744073709551615) ∨ (∃ x r, c.h = x :: r ∧ nextT s.l = x.2) := by
 obtain ⟨n1, n2, n3⟩ := nextT_le s.l 18446744073709551615
 have hin : ∀ e ∈ s.l, ∃ x ∈ c.h, x.2 = e.d := fun e he => by
  rw [h.rel.l] at he
  obtain ⟨n, hn, rfl⟩ := List.mem_map.1 he
  exact ⟨_, (h.rel.hm _).2 ⟨n, hn, trivial, rfl⟩, rfl⟩
 have hback : ∀ x ∈ c.h, ∃ e ∈ s.l, e.d = x.2 := fun x hx => by
  obtain ⟨n, hn, _, rfl⟩ := (h.rel.hm x).1 hx
  exact ⟨_, h.rel.enm hn, rfl⟩
 cases hh : c.h with
 | nil =>
  refine Or.inl ⟨rfl, ?_⟩
  rcases n3 with n3 | ⟨e, he, _⟩
  ·exact n3
  ·obtain ⟨x, hx, _⟩ := hin e he; rw [hh] at hx; cases hx
 | cons x r =>
  refine Or.inr ⟨x, r, rfl, ?_⟩
  have hpw := hS.pw
  rw [hh] at hpw
  have hmin : ∀ y ∈ c.h, x.2 ≤ y.2 := fun y hy => by
   rw [hh] at hy
   rcases List.mem_cons.1 hy with rfl | hy
   ·exact Int.le_refl _
   ·have := (List.pairwise_cons.1 hpw).1 y hy; unfold Ya.bf at this; omega
  obtain ⟨e, he, hed⟩ := hback x (by rw [hh]; simp)
  have h1 := n2 e he
  rcases n3 with n3 | ⟨e', he', n3⟩
  ·have h2 : x.2 < 18446744073709551616 := by have := hS.tm x (by rw [hh]; simp); exact this.2
   unfold nextT; omega
  ·obtain ⟨y, hy, hyd⟩ := hin e' he'
   have := hmin y hy
   unfold nextT; omega
section
variable {F Kd : Nat → Prop} {w : World} {g : Nat} {s : Sx}
set_option maxRecDepth 100000 in
set_option maxHeartbeats 4000000 in
theorem find_no {p : Nat → Nat} {ns : List Nat} {q : Ptr} {c : Ct} (hB : Bt (fun _ => True) 0 0 p w g s ns q c) (hF : ∀ j, j < w.heap.size → p j ≠ 0 → F j) (k : ByteArray) (hk : k.size ≤ 1000000) {e : Int} (hG : Tf.Gets c.t (kb k) 0 e) (he : e ≠ 0) :
  Calls Tryz.prog 26 #[.pointer (some ⟨g, 0, none⟩), .string k] w (gotPost F w g s zeroE e) := by
 have HB := Lib.hid hB
 have HF := Lib.hid hF
 obtain ⟨C, hC⟩ : ∃ C, C = w.heap.size := ⟨_, rfl⟩
 obtain ⟨v1, hv1⟩ : ∃ v1, v1 = w.alloc (.cells zA 42) := ⟨_, rfl⟩
 have HT1 : Hid (Tk p w [(C, zA, 42)] [] (col p 0 w.heap.size) v1 g q c) := by
  have hb : Below w.heap.size w v1 := by rw [hv1]; exact bnew _ _
  exact ((Tk.start hB.lo).below hb).add (by rw [hv1, hC]; exact Blk.new w _ _) (col_ge (by omega))
 obtain ⟨p1, hp1⟩ : ∃ p1, p1 = col p 0 w.heap.size := ⟨_, rfl⟩
 rw [← hp1] at HT1
 clear hp1
 have HC := Lib.hid hC
 have HSL := Lib.hid (Ik.slot_any HT1.out.lo k hk hG)
 have hne : (e != 0) = true := by simpa using he
 clear he
 unfold zA at hv1
 clear hB hF hG hk
 go_enter Tryz.func26, Tryz.ntmps26
 go_wp2_with fail
 rw [← hv1, ← hC]
 clear hv1 hC
 refine HSL.out.mono ?_
 rintro _ v2 ⟨rfl, b2⟩
 have HT2 := Lib.hid (HT1.out.below b2)
 clear b2 HSL
 obtain ⟨p2, hp2⟩ : ∃ p2, p2 = col p1 0 v1.heap.size := ⟨_, rfl⟩
 rw [← hp2] at HT2
 clear hp2
 have HRB := (HT2.out.get (b := C) (cs := zA) (t := 42) (by simp)).1
 have HPC := Lib.hid (HT2.out.get (b := C) (cs := zA) (t := 42) (by simp)).2
 unfold zA at HRB
 obtain ⟨r0, r1, r2, r3, r4, r5, rf⟩ := six HRB
 have rl := HRB.lt
 have rf0 := rf 0; have rf1 := rf 1; have rf2 := rf 2; have rf3 := rf 3; have rf4 := rf 4; have rf5 := rf 5
 clear HRB rf
 go_wp2_with fail
 have HO14 : Only (fun j => j = C) v2 (put6 v2 C (.string zeroM.e.k) (.slice zeroM.A zeroM.e.v.length zeroM.a) (.slice zeroM.B zeroM.e.t.length zeroM.b) (.int .u64 zeroM.e.d) (.int .u64 zeroM.e.n) (.int .u64 zeroM.e.s)) := put6_only v2 C _ _ _ _ _ _
 have HT14 := (HT2.out.sub (B' := []) (Y' := []) (fun _ h => by cases h) (fun _ h => by cases h)).put HPC.out HO14 (fun _ h => by cases h) (fun h => by have := HC.out; omega)
 exact bodyPost_ret (v := .tuple #[emV zeroM, .int .i64 e]) (by simp [results, Tryz.results26, go_sem, emV, zeroM, zeroE, r0, r1, r2, r3, r4, r5]) rfl ⟨_, _, zeroM, rfl, rfl, RE.zero, El.OwE.wr (OwE.zero 0 _), gave HF.out HT14.st ⟨HT14.lo, HB.out.rel, HB.out.r, HB.out.m⟩⟩
set_option maxRecDepth 100000 in
set_option maxHeartbeats 4000000 in
theorem use_no {p : Nat → Nat} {ns : List Nat} {q : Ptr} {c : Ct} (hB : Bt (fun _ => True) 0 0 p w g s ns q c) (hF : Hf Kd F p w) (k : ByteArray) (hk : k.size ≤ 1000000) {e : Int} (hG : Tf.Gets c.t (kb k) 0 e) (he : e ≠ 0) :
  Calls Tryz.prog 20 #[.pointer (some ⟨g, 0, none⟩), .string k] w (gotH Kd F w g s zeroE e) := by
 have HB := Lib.hid hB
 have HF := Lib.hid hF
 obtain ⟨C, hC⟩ : ∃ C, C = w.heap.size := ⟨_, rfl⟩
 obtain ⟨v1, hv1⟩ : ∃ v1, v1 = w.alloc (.cells zA 42) := ⟨_, rfl⟩
 have HT1 : Hid (Tk p w [(C, zA, 42)] [] (col p 0 w.heap.size) v1 g q c) := by
  have hb : Below w.heap.size w v1 := by rw [hv1]; exact bnew _ _
  exact ((Tk.start hB.lo).below hb).add (by rw [hv1, hC]; exact Blk.new w _ _) (col_ge (by omega))
 obtain ⟨p1, hp1⟩ : ∃ p1, p1 = col p 0 w.heap.size := ⟨_, rfl⟩
 rw [← hp1] at HT1
 clear hp1
 have HC := Lib.hid hC
 have HSL := Lib.hid (Ik.slot_any HT1.out.lo k hk hG)
 have hne : (e != 0) = true := by simpa using he
 clear he
 unfold zA at hv1
 clear hB hF hG hk
 go_enter Tryz.func20, Tryz.ntmps20
 go_wp2_with fail
 rw [← hv1, ← hC]
 clear hv1 hC
 refine HSL.out.mono ?_
 rintro _ v2 ⟨rfl, b2⟩
 have HT2 := Lib.hid (HT1.out.below b2)
 clear b2 HSL
 obtain ⟨p2, hp2⟩ : ∃ p2, p2 = col p1 0 v1.heap.size := ⟨_, rfl⟩
 rw [← hp2] at HT2
 clear hp2
 have HRB := (HT2.out.get (b := C) (cs := zA) (t := 42) (by simp)).1
 have HPC := Lib.hid (HT2.out.get (b := C) (cs := zA) (t := 42) (by simp)).2
 unfold zA at HRB
 obtain ⟨r0, r1, r2, r3, r4, r5, rf⟩ := six HRB
 have rl := HRB.lt
 have rf0 := rf 0; have rf1 := rf 1; have rf2 := rf 2; have rf3 := rf 3; have rf4 := rf 4; have rf5 := rf 5
 clear HRB rf
 go_wp2_with fail
 have HO14 : Only (fun j => j = C) v2 (put6 v2 C (.string zeroM.e.k) (.slice zeroM.A zeroM.e.v.length zeroM.a) (.slice zeroM.B zeroM.e.t.length zeroM.b) (.int .u64 zeroM.e.d) (.int .u64 zeroM.e.n) (.int .u64 zeroM.e.s)) := put6_only v2 C _ _ _ _ _ _
 have HT14 := (HT2.out.sub (B' := []) (Y' := []) (fun _ h => by cases h) (fun _ h => by cases h)).put HPC.out HO14 (fun _ h => by cases h) (fun h => by have := HC.out; omega)
 exact bodyPost_ret (v := .tuple #[emV zeroM, .int .i64 e]) (by simp [results, Tryz.results20, go_sem, emV, zeroM, zeroE, r0, r1, r2, r3, r4, r5]) rfl ⟨_, _, zeroM, rfl, rfl, RE.zero, El.OwE.wr (OwE.zero 0 _), gavg HF.out HT14.st ⟨HT14.lo, HB.out.rel, HB.out.r, HB.out.m⟩⟩
set_option maxRecDepth 100000 in
set_option maxHeartbeats 4000000 in
theorem rem_no {p : Nat → Nat} {ns : List Nat} {q : Ptr} {c : Ct} (hB : Bt (fun _ => True) 0 0 p w g s ns q c) (hF : Hf Kd F p w) (k : ByteArray) (hk : k.size ≤ 1000000) {e : Int} (hG : Tf.Gets c.t (kb k) 0 e) (he : e ≠ 0) :
  Calls Tryz.prog 21 #[.pointer (some ⟨g, 0, none⟩), .string k] w (gotH Kd F w g s zeroE e) := by
 have HB := Lib.hid hB
 have HF := Lib.hid hF
 obtain ⟨C, hC⟩ : ∃ C, C = w.heap.size := ⟨_, rfl⟩
 obtain ⟨v1, hv1⟩ : ∃ v1, v1 = w.alloc (.cells zA 42) := ⟨_, rfl⟩
 have HT1 : Hid (Tk p w [(C, zA, 42)] [] (col p 0 w.heap.size) v1 g q c) := by
  have hb : Below w.heap.size w v1 := by rw [hv1]; exact bnew _ _
  exact ((Tk.start hB.lo).below hb).add (by rw [hv1, hC]; exact Blk.new w _ _) (col_ge (by omega))
 obtain ⟨p1, hp1⟩ : ∃ p1, p1 = col p 0 w.heap.size := ⟨_, rfl⟩
 rw [← hp1] at HT1
 clear hp1
 have HC := Lib.hid hC
 have HSL := Lib.hid (Ik.slot_any HT1.out.lo k hk hG)
 have hne : (e != 0) = true := by simpa using he
 clear he
 unfold zA at hv1
 clear hB hF hG hk
 go_enter Tryz.func21, Tryz.ntmps21
 go_wp2_with fail
 rw [← hv1, ← hC]
 clear hv1 hC
 refine HSL.out.mono ?_
 rintro _ v2 ⟨rfl, b2⟩
 have HT2 := Lib.hid (HT1.out.below b2)
 clear b2 HSL
 obtain ⟨p2, hp2⟩ : ∃ p2, p2 = col p1 0 v1.heap.size := ⟨_, rfl⟩
 rw [← hp2] at HT2
 clear hp2
 have HRB := (HT2.out.get (b := C) (cs := zA) (t := 42) (by simp)).1
 have HPC := Lib.hid (HT2.out.get (b := C) (cs := zA) (t := 42) (by simp)).2
 unfold zA at HRB
 obtain ⟨r0, r1, r2, r3, r4, r5, rf⟩ := six HRB
 have rl := HRB.lt
 have rf0 := rf 0; have rf1 := rf 1; have rf2 := rf 2; have rf3 := rf 3; have rf4 := rf 4; have rf5 := rf 5
 clear HRB rf
 go_wp2_with fail
 have HO14 : Only (fun j => j = C) v2 (put6 v2 C (.string zeroM.e.k) (.slice zeroM.A zeroM.e.v.length zeroM.a) (.slice zeroM.B zeroM.e.t.length zeroM.b) (.int .u64 zeroM.e.d) (.int .u64 zeroM.e.n) (.int .u64 zeroM.e.s)) := put6_only v2 C _ _ _ _ _ _
 have HT14 := (HT2.out.sub (B' := []) (Y' := []) (fun _ h => by cases h) (fun _ h => by cases h)).put HPC.out HO14 (fun _ h => by cases h) (fun h => by have := HC.out; omega)
 exact bodyPost_ret (v := .tuple #[emV zeroM, .int .i64 e]) (by simp [results, Tryz.results21, go_sem, emV, zeroM, zeroE, r0, r1, r2, r3, r4, r5]) rfl ⟨_, _, zeroM, rfl, rfl, RE.zero, El.OwE.wr (OwE.zero 0 _), gavg HF.out HT14.st ⟨HT14.lo, HB.out.rel, HB.out.r, HB.out.m⟩⟩
set_option maxRecDepth 100000 in
set_option maxHeartbeats 4000000 in
theorem find_yes {p : Nat → Nat} {ns : List Nat} {q : Ptr} {c : Ct} (hB : Bt (fun _ => True) 0 0 p w g s ns q c) (hF : ∀ j, j < w.heap.size → p j ≠ 0 → F j) (k : ByteArray) (hk : k.size ≤ 1000000) {i : Nat} (hi : i < ns.length) (hG : Tf.Gets c.t (kb k) (ns[i] : Int) 0) :
  Calls Tryz.prog 26 #[.pointer (some ⟨g, 0, none⟩), .string k] w (gotPost F w g s (en c.E ns[i]) 0) := by
 obtain ⟨n, hn⟩ : ∃ n, n = ns[i] := ⟨_, rfl⟩
 have hnm : n ∈ ns := by rw [hn]; exact List.getElem_mem hi
 have hnl := hB.rel.lt n hnm
 have hbig := hB.rel.big
 obtain ⟨x, hx⟩ : ∃ x, x = c.E[n] := ⟨_, rfl⟩
 have HXE : Hid (en c.E ns[i] = x.e) := by show _ = _; rw [← hn, hx]; exact en_at hnl
 have i1 : (n : Int) < (c.E.length : Int) := by omega
 rw [← hn] at hG HXE
 rw [← hn]
 have HB := Lib.hid hB
 have HF := Lib.hid hF
 obtain ⟨C, hC⟩ : ∃ C, C = w.heap.size := ⟨_, rfl⟩
 obtain ⟨v1, hv1⟩ : ∃ v1, v1 = w.alloc (.cells zA 42) := ⟨_, rfl⟩
 have HT1 : Hid (Tk p w [(C, zA, 42)] [] (col p 0 w.heap.size) v1 g q c) := by
  have hb : Below w.heap.size w v1 := by rw [hv1]; exact bnew _ _
  exact ((Tk.start hB.lo).below hb).add (by rw [hv1, hC]; exact Blk.new w _ _) (col_ge (by omega))
 obtain ⟨p1, hp1⟩ : ∃ p1, p1 = col p 0 w.heap.size := ⟨_, rfl⟩
 rw [← hp1] at HT1
 clear hp1
 have HC := Lib.hid hC
 have HSL := Lib.hid (Ik.slot_any HT1.out.lo k hk hG)
 have HNN := Lib.hid hn
 clear hnm hn
 unfold zA at hv1
 clear hB hF hG hk
 go_enter Tryz.func26, Tryz.ntmps26
 go_wp2_with fail
 rw [← hv1, ← hC]
 clear hv1 hC
 refine HSL.out.mono ?_
 rintro _ v2 ⟨rfl, b2⟩
 have HT2 := Lib.hid (HT1.out.below b2)
 clear b2 HSL
 obtain ⟨p2, hp2⟩ : ∃ p2, p2 = col p1 0 v1.heap.size := ⟨_, rfl⟩
 rw [← hp2] at HT2
 clear hp2
 obtain ⟨b, o, hA, hb, _, e0, e1, e2, e3, e4, e5, _⟩ := HT2.out.lo.at_ (n := n) hnl
 obtain ⟨g0, g1, g2, g3, g4, g5⟩ := Ik.Lo.six HT2.out.lo
 have hgl := HT2.out.lo.lt
 rw [hA] at g1
 try simp only at g1 e0 e1 e2 e3 e4 e5
 rw [← hx] at e0 e1 e2 e3 e4 e5
 have HRX : Hid (RE (fun j => p2 j = 8 ∧ j < v2.heap.size) v2 x) := by show RE _ _ _; rw [hx]; exact HT2.out.lo.re _ (List.getElem_mem _)
 have HXX := Lib.hid hx
 clear hx hA
 go_wp2_with fail
 clear g0 g1 g2 g3 g4 g5 hgl
 clear e0 e1 e2 e3 e4 e5 hb
 refine (copied_any x v2 (fun v hb => HRX.out.below hb (Nat.le_refl _))).mono ?_
 rintro _ v9 ⟨y, hye, rfl, oy, b9⟩
 have HT9 := Lib.hid (HT2.out.below b9)
 have HOY := Lib.hid oy
 have HYE := Lib.hid hye
 have HPZ : Hid (∀ j, v2.heap.size ≤ j → col p2 0 v2.heap.size j = 0) := fun j hj => col_ge hj
 have z9 := b9.size
 clear b9 oy hye
 obtain ⟨p9, hp9⟩ : ∃ p9, p9 = col p2 0 v2.heap.size := ⟨_, rfl⟩
 rw [← hp9] at HT9 HPZ
 clear hp9
 have HCL : C < v2.heap.size := (HT2.out.get (b := C) (cs := zA) (t := 42) (by simp)).1.lt
 have HRB := (HT9.out.get (b := C) (cs := zA) (t := 42) (by simp)).1
 have HPC := Lib.hid (HT9.out.get (b := C) (cs := zA) (t := 42) (by simp)).2
 unfold zA at HRB
 obtain ⟨r0, r1, r2, r3, r4, r5, rf⟩ := six HRB
 have rl := HRB.lt
 have rf0 := rf 0; have rf1 := rf 1; have rf2 := rf 2; have rf3 := rf 3; have rf4 := rf 4; have rf5 := rf 5
 clear HRB rf
 unfold emV
 go_wp2_with fail
 have HO14 : Only (fun j => j = C) v9 (put6 v9 C (.string y.e.k) (.slice y.A y.e.v.length y.a) (.slice y.B y.e.t.length y.b) (.int .u64 y.e.d) (.int .u64 y.e.n) (.int .u64 y.e.s)) := put6_only v9 C _ _ _ _ _ _
 have HT14 := (HT9.out.sub (B' := []) (Y' := []) (fun _ h => by cases h) (fun _ h => by cases h)).put HPC.out HO14 (fun _ h => by cases h) (fun h => by have := HC.out; omega)
 have hCw := HC.out; have hz := HT2.out.st.on.size
 have h1 := (HOY.out.only HO14 (fun j hj hf => by omega)).base hz
 have h2 : RE (nP p9 w) (put6 v9 C (.string y.e.k) (.slice y.A y.e.v.length y.a) (.slice y.B y.e.t.length y.b) (.int .u64 y.e.d) (.int .u64 y.e.n) (.int .u64 y.e.s)) y := (HOY.out.only HO14 (fun j hj hf => by omega)).re.mono fun j hj => ⟨HPZ.out j hj, by omega⟩
 exact bodyPost_ret (v := .tuple #[emV y, .int .i64 0]) (by simp [results, Tryz.results26, go_sem, emV, r0, r1, r2, r3, r4, r5]) rfl ⟨_, _, y, rfl, by rw [HYE.out, HXE.out], h2, El.OwE.wr h1, gave HF.out HT14.st ⟨HT14.lo, HB.out.rel, HB.out.r, HB.out.m⟩⟩
set_option maxRecDepth 100000 in
set_option maxHeartbeats 4000000 in
theorem use_yes {p : Nat → Nat} {ns : List Nat} {q : Ptr} {c : Ct} (hB : Bt (fun _ => True) 0 0 p w g s ns q c) (hF : Hf Kd F p w) (k : ByteArray) (hk : k.size ≤ 1000000) {i : Nat} (hi : i < ns.length) (hG : Tf.Gets c.t (kb k) (ns[i] : Int) 0) :
  Calls Tryz.prog 20 #[.pointer (some ⟨g, 0, none⟩), .string k] w (gotH Kd F w g { s with l := wo s.l i ++ [en c.E ns[i]] } (en c.E ns[i]) 0) := by
 obtain ⟨n, hn⟩ : ∃ n, n = ns[i] := ⟨_, rfl⟩
 have hnm : n ∈ ns := by rw [hn]; exact List.getElem_mem hi
 have hnl := hB.rel.lt n hnm
 have hbig := hB.rel.big
 obtain ⟨x, hx⟩ : ∃ x, x = c.E[n] := ⟨_, rfl⟩
 have HXE : Hid (en c.E ns[i] = x.e) := by show _ = _; rw [← hn, hx]; exact en_at hnl
 have i1 : (n : Int) < (c.E.length : Int) := by omega
 have HRU := Lib.hid (hB.rel.use hi (E' := c.E) (h' := c.h) (y := en c.E ns[i]) ⟨rfl, rfl, hB.rel.oke (List.getElem_mem hi)⟩ rfl rfl (fun _ _ _ => rfl) (fun z => by
  constructor
  ·intro hz
   obtain ⟨m, hm1, hm2, rfl⟩ := (hB.rel.hm z).1 hz
   by_cases e : m = ns[i]
   ·subst e; exact Or.inl rfl
   ·exact Or.inr ⟨hz, by simp only; omega⟩
  ·rintro (rfl | hz)
   ·exact (hB.rel.hm _).2 ⟨_, List.getElem_mem hi, trivial, rfl⟩
   ·exact hz.1))
 have HRC : Hid (Ua.useT c.r (ns[i] : Int) = iI (wn ns ns[i] ++ [ns[i]])) := by show _ = _; rw [hB.r]; unfold Ua.useT; rw [if_pos ⟨(hB.rel.sl (List.getElem_mem hi)).1, mem_iI.2 (List.getElem_mem hi)⟩, iI_wn]; unfold iI; rw [List.map_append]; rfl
 rw [← hn] at hG HXE HRU HRC
 rw [← hn]
 have HB := Lib.hid hB
 have HF := Lib.hid hF
 obtain ⟨C, hC⟩ : ∃ C, C = w.heap.size := ⟨_, rfl⟩
 obtain ⟨v1, hv1⟩ : ∃ v1, v1 = w.alloc (.cells zA 42) := ⟨_, rfl⟩
 have HT1 : Hid (Tk p w [(C, zA, 42)] [] (col p 0 w.heap.size) v1 g q c) := by
  have hb : Below w.heap.size w v1 := by rw [hv1]; exact bnew _ _
  exact ((Tk.start hB.lo).below hb).add (by rw [hv1, hC]; exact Blk.new w _ _) (col_ge (by omega))
 obtain ⟨p1, hp1⟩ : ∃ p1, p1 = col p 0 w.heap.size := ⟨_, rfl⟩
 rw [← hp1] at HT1
 clear hp1
 have HC := Lib.hid hC
 have HSL := Lib.hid (Ik.slot_any HT1.out.lo k hk hG)
 clear hnm hn
 unfold zA at hv1
 clear hB hF hG hk
 go_enter Tryz.func20, Tryz.ntmps20
 go_wp2_with fail
 rw [← hv1, ← hC]
 clear hv1 hC
 refine HSL.out.mono ?_
 rintro _ v2 ⟨rfl, b2⟩
 have HT2 := Lib.hid (HT1.out.below b2)
 clear b2 HSL
 obtain ⟨p2, hp2⟩ : ∃ p2, p2 = col p1 0 v1.heap.size := ⟨_, rfl⟩
 rw [← hp2] at HT2
 clear hp2
 obtain ⟨g0, g1, g2, g3, g4, g5⟩ := Ik.Lo.six HT2.out.lo
 have hgl := HT2.out.lo.lt
 go_wp2_with fail
 clear g0 g1 g2 g3 g4 g5 hgl
 refine (Ue.use_str HT2.out.lo.rc (n : Int)).mono ?_
 rintro _ v3 ⟨rfl, ha, ho⟩
 have HT3 := Lib.hid (HT2.out.next (HT2.out.lo.setR (p' := p2) (fun _ _ => rfl) ha ho (fun _ _ hj => hj)) (Step.same (by decide) ho))
 clear ha ho
 obtain ⟨b, o, hA, hb, _, e0, e1, e2, e3, e4, e5, _⟩ := HT3.out.lo.at_ (n := n) hnl
 obtain ⟨g0, g1, g2, g3, g4, g5⟩ := Ik.Lo.six HT3.out.lo
 have hgl := HT3.out.lo.lt
 rw [hA] at g1
 try simp only at g1 e0 e1 e2 e3 e4 e5
 rw [← hx] at e0 e1 e2 e3 e4 e5
 have HRX : Hid (RE (fun j => p2 j = 8 ∧ j < v3.heap.size) v3 x) := by show RE _ _ _; rw [hx]; exact HT3.out.lo.re _ (List.getElem_mem _)
 have HXX := Lib.hid hx
 clear hx hA
 go_wp2_with fail
 clear g0 g1 g2 g3 g4 g5 hgl
 clear e0 e1 e2 e3 e4 e5 hb
 refine (copied_any x v3 (fun v hb => HRX.out.below hb (Nat.le_refl _))).mono ?_
 rintro _ v9 ⟨y, hye, rfl, oy, b9⟩
 have HT9 := Lib.hid (HT3.out.below b9)
 have HOY := Lib.hid oy
 have HYE := Lib.hid hye
 have HPZ : Hid (∀ j, v3.heap.size ≤ j → col p2 0 v3.heap.size j = 0) := fun j hj => col_ge hj
 have z9 := b9.size
 clear b9 oy hye
 obtain ⟨p9, hp9⟩ : ∃ p9, p9 = col p2 0 v3.heap.size := ⟨_, rfl⟩
 rw [← hp9] at HT9 HPZ
 clear hp9
 have HCL : C < v3.heap.size := (HT3.out.get (b := C) (cs := zA) (t := 42) (by simp)).1.lt
 have HRB := (HT9.out.get (b := C) (cs := zA) (t := 42) (by simp)).1
 have HPC := Lib.hid (HT9.out.get (b := C) (cs := zA) (t := 42) (by simp)).2
 unfold zA at HRB
 obtain ⟨r0, r1, r2, r3, r4, r5, rf⟩ := six HRB
 have rl := HRB.lt
 have rf0 := rf 0; have rf1 := rf 1; have rf2 := rf 2; have rf3 := rf 3; have rf4 := rf 4; have rf5 := rf 5
 clear HRB rf
 unfold emV
 go_wp2_with fail
 have HO14 : Only (fun j => j = C) v9 (put6 v9 C (.string y.e.k) (.slice y.A y.e.v.length y.a) (.slice y.B y.e.t.length y.b) (.int .u64 y.e.d) (.int .u64 y.e.n) (.int .u64 y.e.s)) := put6_only v9 C _ _ _ _ _ _
 have HT14 := (HT9.out.sub (B' := []) (Y' := []) (fun _ h => by cases h) (fun _ h => by cases h)).put HPC.out HO14 (fun _ h => by cases h) (fun h => by have := HC.out; omega)
 have hCw := HC.out; have hz := HT3.out.st.on.size
 have h1 := (HOY.out.only HO14 (fun j hj hf => by omega)).base hz
 have h2 : RE (nP p9 w) (put6 v9 C (.string y.e.k) (.slice y.A y.e.v.length y.a) (.slice y.B y.e.t.length y.b) (.int .u64 y.e.d) (.int .u64 y.e.n) (.int .u64 y.e.s)) y := (HOY.out.only HO14 (fun j hj hf => by omega)).re.mono fun j hj => ⟨HPZ.out j hj, by omega⟩
 refine bodyPost_ret (v := .tuple #[emV y, .int .i64 0]) (by simp [results, Tryz.results20, go_sem, emV, r0, r1, r2, r3, r4, r5]) rfl ⟨_, _, y, rfl, by rw [HYE.out, HXE.out], h2, El.OwE.wr h1, gavg (ns := wn ns n ++ [n]) HF.out HT14.st ⟨HT14.lo, ?_, ?_, HB.out.m⟩⟩
 ·dsimp only
  with_reducible exact HRU.out
 ·dsimp only
  with_reducible exact HRC.out
set_option maxRecDepth 100000 in
set_option maxHeartbeats 4000000 in
theorem rem_yes {p : Nat → Nat} {ns : List Nat} {q : Ptr} {c : Ct} (hB : Bt (fun _ => True) 0 0 p w g s ns q c) (hF : Hf Kd F p w) (k : ByteArray) (hk : k.size ≤ 1000000) {i : Nat} (hi : i < ns.length) (hG : Tf.Gets c.t (kb k) (ns[i] : Int) 0) :
  Calls Tryz.prog 21 #[.pointer (some ⟨g, 0, none⟩), .string k] w (gotH Kd F w g { s with l := wo s.l i } (en c.E ns[i]) 0) := by
 have HB := Lib.hid hB
 have HF := Lib.hid hF
 obtain ⟨C, hC⟩ : ∃ C, C = w.heap.size := ⟨_, rfl⟩
 obtain ⟨v1, hv1⟩ : ∃ v1, v1 = w.alloc (.cells zA 42) := ⟨_, rfl⟩
 have HT1 : Hid (Tk p w [(C, zA, 42)] [] (col p 0 w.heap.size) v1 g q c) := by
  have hb : Below w.heap.size w v1 := by rw [hv1]; exact bnew _ _
  exact ((Tk.start hB.lo).below hb).add (by rw [hv1, hC]; exact Blk.new w _ _) (col_ge (by omega))
 obtain ⟨p1, hp1⟩ : ∃ p1, p1 = col p 0 w.heap.size := ⟨_, rfl⟩
 rw [← hp1] at HT1
 clear hp1
 have HC := Lib.hid hC
 have HSL := Lib.hid (Ik.slot_any HT1.out.lo k hk hG)
 have HTK : Hid (∀ v p', Bt (fun _ => True) 0 0 p' v g s ns q c → Calls Tryz.prog 64 #[.pointer (some ⟨g, 0, none⟩), .int .i64 (ns[i] : Int)] v (takePost (fun _ => True) 0 0 p' v g { s with l := wo s.l i } (wn ns ns[i]) q (en c.E ns[i]))) := fun v p' hv => take_any hv hi
 obtain ⟨m, hm⟩ : ∃ m, m = ns[i] := ⟨_, rfl⟩
 rw [← hm] at HTK HSL
 rw [← hm]
 have HMM := Lib.hid hm
 clear hm
 unfold zA at hv1
 clear hB hF hG hk
 go_enter Tryz.func21, Tryz.ntmps21
 go_wp2_with fail
 rw [← hv1, ← hC]
 clear hv1 hC
 refine HSL.out.mono ?_
 rintro _ v2 ⟨rfl, b2⟩
 have HT2 := Lib.hid (HT1.out.below b2)
 clear b2 HSL
 obtain ⟨p2, hp2⟩ : ∃ p2, p2 = col p1 0 v1.heap.size := ⟨_, rfl⟩
 rw [← hp2] at HT2
 clear hp2
 go_wp2_with fail
 refine (HTK.out v2 p2 ⟨HT2.out.lo, HB.out.rel, HB.out.r, HB.out.m⟩).mono ?_
 rintro _ v9 ⟨p9, y, c9, rfl, hye, gy, S9, B9⟩
 have HT9 := Lib.hid (HT2.out.next B9.lo S9)
 have HGY := Lib.hid gy
 have HYE := Lib.hid hye
 have HB9 := Lib.hid B9
 have z9 := S9.on.size
 clear S9 B9 gy hye
 have HCL : C < v2.heap.size := (HT2.out.get (b := C) (cs := zA) (t := 42) (by simp)).1.lt
 have HRB := (HT9.out.get (b := C) (cs := zA) (t := 42) (by simp)).1
 have HPC := Lib.hid (HT9.out.get (b := C) (cs := zA) (t := 42) (by simp)).2
 unfold zA at HRB
 obtain ⟨r0, r1, r2, r3, r4, r5, rf⟩ := six HRB
 have rl := HRB.lt
 have rf0 := rf 0; have rf1 := rf 1; have rf2 := rf 2; have rf3 := rf 3; have rf4 := rf 4; have rf5 := rf 5
 clear HRB rf
 unfold emV
 go_wp2_with fail
 have HO14 : Only (fun j => j = C) v9 (put6 v9 C (.string y.e.k) (.slice y.A y.e.v.length y.a) (.slice y.B y.e.t.length y.b) (.int .u64 y.e.d) (.int .u64 y.e.n) (.int .u64 y.e.s)) := put6_only v9 C _ _ _ _ _ _
 have HT14 := (HT9.out.sub (B' := []) (Y' := []) (fun _ h => by cases h) (fun _ h => by cases h)).put HPC.out HO14 (fun _ h => by cases h) (fun h => by have := HC.out; omega)
 have hCw := HC.out; have hz := HT2.out.st.on.size
 have h0 : Gv p9 v2 (put6 v9 C (.string y.e.k) (.slice y.A y.e.v.length y.a) (.slice y.B y.e.t.length y.b) (.int .u64 y.e.d) (.int .u64 y.e.n) (.int .u64 y.e.s)) y := HGY.out.only HO14 (fun j hj hf => by have := (HGY.out.rows hj).1; omega) (fun _ _ => rfl)
 have h1 := h0.back hz
 exact bodyPost_ret (v := .tuple #[emV y, .int .i64 0]) (by simp [results, Tryz.results21, go_sem, emV, r0, r1, r2, r3, r4, r5]) rfl ⟨_, _, y, rfl, HYE.out, h1.re, El.OwE.wr h1.ow, gavg HF.out HT14.st ⟨HT14.lo, HB9.out.rel, HB9.out.r, HB9.out.m⟩⟩
set_option maxRecDepth 100000 in
set_option maxHeartbeats 4000000 in
theorem tou_no {p : Nat → Nat} {ns : List Nat} {q : Ptr} {c : Ct} (hB : Bt (fun _ => True) 0 0 p w g s ns q c) (hF : ∀ j, j < w.heap.size → p j ≠ 0 → F j) (k : ByteArray) (hk : k.size ≤ 1000000) (d : Int) {e : Int} (hG : Tf.Gets c.t (kb k) 0 e) (he : e ≠ 0) :
  Calls Tryz.prog 30 #[.pointer (some ⟨g, 0, none⟩), .string k, .int .u64 d] w (touPost F w g s e) := by
 have HB := Lib.hid hB
 have HF := Lib.hid hF
 have HT1 := Lib.hid (Tk.start hB.lo)
 have HSL := Lib.hid (Ik.slot_any hB.lo k hk hG)
 have hne : (e != 0) = true := by simpa using he
 clear he
 clear hB hF hG hk
 go_enter Tryz.func30, Tryz.ntmps30
 go_wp2_with fail
 refine HSL.out.mono ?_
 rintro _ v2 ⟨rfl, b2⟩
 have HT2 := Lib.hid (HT1.out.below b2)
 clear b2 HSL
 obtain ⟨p2, hp2⟩ : ∃ p2, p2 = col p 0 w.heap.size := ⟨_, rfl⟩
 rw [← hp2] at HT2
 clear hp2
 go_wp2_with fail
 go_ret
 exact ⟨_, rfl, (gave HF.out HT2.out.st ⟨HT2.out.lo, HB.out.rel, HB.out.r, HB.out.m⟩).none⟩
set_option maxRecDepth 100000 in
set_option maxHeartbeats 4000000 in
theorem tou_yes {p : Nat → Nat} {ns : List Nat} {q : Ptr} {c : Ct} (hB : Bt (fun _ => True) 0 0 p w g s ns q c) (hF : ∀ j, j < w.heap.size → p j ≠ 0 → F j) (k : ByteArray) (hk : k.size ≤ 1000000) (d : Int) (hd : 0 ≤ d ∧ d < 18446744073709551616) {i : Nat} (hi : i < ns.length) (hG : Tf.Gets c.t (kb k) (ns[i] : Int) 0) :
  Calls Tryz.prog 30 #[.pointer (some ⟨g, 0, none⟩), .string k, .int .u64 d] w (touPost F w g { s with l := wo s.l i ++ [{ en c.E ns[i] with d := d }] } 0) := by
 obtain ⟨n, hn⟩ : ∃ n, n = ns[i] := ⟨_, rfl⟩
 have hnm : n ∈ ns := by rw [hn]; exact List.getElem_mem hi
 have hnl := hB.rel.lt n hnm
 have hbig := hB.rel.big
 have i1 : (n : Int) < (c.E.length : Int) := by omega
 obtain ⟨E2, hE2⟩ : ∃ E2, E2 = c.E.modify n fun x => { x with e := { x.e with d := d } } := ⟨_, rfl⟩
 have hl2 : E2.length = c.E.length := by rw [hE2]; simp
 have hen : en E2 n = { en c.E n with d := d } := by rw [en_at (by omega), en_at hnl]; simp [hE2]
 have heo : ∀ m, m ∈ ns → m ≠ n → en E2 m = en c.E m := fun m hm hne => by have := hB.rel.lt m hm; rw [en_at (by omega), en_at this]; simp only [hE2]; rw [List.getElem_modify, if_neg (fun e => hne e.symm)]
 have hoe := hB.rel.oke hnm
 have HRU := Lib.hid (hB.rel.use hi (E' := E2) (h' := Yc.movT c.h (n : Int) d) (y := { en c.E ns[i] with d := d }) (by rw [← hn]; exact ⟨rfl, rfl, hoe.1, ⟨hoe.2.k, hoe.2.v, hoe.2.t, hoe.2.e, hd, hoe.2.n, hoe.2.s⟩⟩) hl2 (by rw [← hn]; exact hen) (by rw [← hn]; exact heo) (fun z => by
  rw [← hn]
  have hnh : (n : Int) ∈ Yb.ns c.h := hB.rel.nsh.2 ⟨hnm, trivial⟩
  unfold Yc.movT
  rw [if_pos ⟨(hB.rel.sl hnm).2, hnh⟩, Yc.mem_ins, Yc.mem_wo]))
 have HRC : Hid (Ua.useT c.r (n : Int) = iI (wn ns n ++ [n])) := by show _ = _; rw [hB.r]; unfold Ua.useT; rw [if_pos ⟨(hB.rel.sl hnm).1, mem_iI.2 hnm⟩, iI_wn]; unfold iI; rw [List.map_append]; rfl
 rw [← hn] at hG HRU
 rw [← hn]
 have HB := Lib.hid hB
 have HF := Lib.hid hF
 have HT1 := Lib.hid (Tk.start hB.lo)
 have HSL := Lib.hid (Ik.slot_any hB.lo k hk hG)
 have HE2 := Lib.hid hE2
 have HL2 := Lib.hid hl2
 have HD := Lib.hid hd
 have HNN := Lib.hid hn
 clear hnm hE2 hl2 hen heo hoe hd hn
 clear hB hF hG hk
 go_enter Tryz.func30, Tryz.ntmps30
 go_wp2_with fail
 refine HSL.out.mono ?_
 rintro _ v2 ⟨rfl, b2⟩
 have HT2 := Lib.hid (HT1.out.below b2)
 clear b2 HSL
 obtain ⟨p2, hp2⟩ : ∃ p2, p2 = col p 0 w.heap.size := ⟨_, rfl⟩
 rw [← hp2] at HT2
 clear hp2
 obtain ⟨b, o, hA, hb, hpb, _, _, _, e3, _, _, ef⟩ := HT2.out.lo.at_ (n := n) hnl
 have ef3 := ef 3 (by omega)
 obtain ⟨z3, hz3⟩ : ∃ z3, z3 = (c.E[n]'hnl).e.d := ⟨_, rfl⟩
 rw [← hz3] at e3
 clear hz3
 obtain ⟨g0, g1, g2, g3, g4, g5⟩ := Ik.Lo.six HT2.out.lo
 have hgl := HT2.out.lo.lt
 rw [hA] at g1
 obtain ⟨v3, hv3⟩ : ∃ v3, v3 = v2.setCell ⟨b, o + n * 6 + 3, none⟩ (.int .u64 d) := ⟨_, rfl⟩
 have HT3 : Hid (Tk p w [] [] p2 v3 g q { c with E := E2 }) := by
  have ho : Only (fun j => j = b) v2 v3 := by rw [hv3]; exact (Only.refl (fun j => j = b) v2).put (ad := ⟨b, o + n * 6 + 3, none⟩) rfl _
  have hM := HT2.out.lo.en
  rw [hA] at hM
  have hM6 := mine_put hM (n * 6 + 3) (.int .u64 d) (by rw [emL_len]; omega) (emL_setD c.E n d hnl)
  rw [← HE2.out, ← Nat.add_assoc, ← hv3] at hM6
  have ho7 : Only (fun j => p2 j = 1 ∨ p2 j = 7) v2 v3 := ho.mono fun j _ e => by rw [e]; exact Or.inr hpb
  have hgb : g ≠ b := fun e => by have := HT2.out.lo.pg; rw [e, hpb] at this; cases this
  refine HT2.out.next (HT2.out.lo.setE (E := E2) (A := q.A) (n := q.c) ?_ ?_ ho7 (fun _ _ => rfl) HT2.out.lo.pe ?_) (Step.two ho7 (fun _ _ => rfl))
  ·rw [HL2.out]; exact HT2.out.lo.bk.only ho hgb
  ·rw [hA, HL2.out]; exact hM6
  ·intro y hy
   obtain ⟨j, hj, rfl⟩ := List.getElem_of_mem hy
   have hjl : j < c.E.length := by rw [← HL2.out]; exact hj
   have h1 := HT2.out.lo.re _ (List.getElem_mem hjl)
   have h2 : E2[j] = if n = j then { c.E[j] with e := { c.E[j].e with d := d } } else c.E[j] := by simp only [HE2.out]; rw [List.getElem_modify]
   rw [h2]
   split
   ·exact ⟨⟨h1.f.k, h1.f.v, h1.f.t, h1.f.e, HD.out, h1.f.n, h1.f.s⟩, h1.v, h1.t, h1.gv, h1.gt⟩
   ·exact h1
 have hgb : ¬ g = b := fun e => by have := HT2.out.lo.pg; rw [e, hpb] at this; cases this
 have hbg : ¬ b = g := fun e => hgb e.symm
 clear ef
 go_wp2_with fail
 rw [← hv3]
 clear hv3 e3 ef3 hA hb hpb hgb hbg
 clear g0 g1 g2 g3 g4 g5 hgl
 refine (Ye.move_any HT3.out.lo.hp (n : Int) d HD.out).mono ?_
 rintro _ v4 ⟨rfl, ha, ho⟩
 have HT4 := Lib.hid (HT3.out.next (HT3.out.lo.setH (p' := col p2 5 v3.heap.size) (fun _ hj => col_lt hj) ha ho more_col) (Step.part (by decide) ho))
 clear ha ho
 obtain ⟨p4, hp4⟩ : ∃ p4, p4 = col p2 5 v3.heap.size := ⟨_, rfl⟩
 rw [← hp4] at HT4
 clear hp4
 obtain ⟨g0, g1, g2, g3, g4, g5⟩ := Ik.Lo.six HT4.out.lo
 have hgl := HT4.out.lo.lt
 go_wp2_with fail
 clear g0 g1 g2 g3 g4 g5 hgl
 refine (Ue.use_str HT4.out.lo.rc (n : Int)).mono ?_
 rintro _ v5 ⟨rfl, ha, ho⟩
 have HT5 := Lib.hid (HT4.out.next (HT4.out.lo.setR (p' := p4) (fun _ _ => rfl) ha ho (fun _ _ hj => hj)) (Step.same (by decide) ho))
 clear ha ho
 go_wp2_with fail
 go_ret
 refine ⟨_, rfl, (gave (s := { s with l := wo s.l i ++ [{ en c.E n with d := d }] }) (ns := wn ns n ++ [n]) HF.out HT5.out.st ⟨HT5.out.lo, ?_, ?_, HB.out.m⟩).none⟩
 ·dsimp only
  with_reducible exact HRU.out
 ·dsimp only
  with_reducible exact HRC.out
theorem find_any (h : St F w g s) (k : ByteArray) (hk : k.size ≤ 1000000) : Calls Tryz.prog 26 #[.pointer (some ⟨g, 0, none⟩), .string k] w (gotPost F w g s (lookE s k) (lookN s k)) := by
 obtain ⟨p, ns, q, c, hB, hF⟩ := h.has
 rcases hB.rel.look k with ⟨_, h2, h3⟩ | ⟨_, _, h2, h3⟩ | ⟨i, hi, h1, h2, h3, _, h5, _⟩
 ·have e1 : lookE s k = zeroE := by unfold lookE; rw [if_neg (by rw [h2]; decide)]
  rw [h2, e1]; exact find_no hB hF k hk h3 (by decide)
 ·have e1 : lookE s k = zeroE := by unfold lookE; rw [if_neg (by rw [h2]; decide)]
  rw [h2, e1]; exact find_no hB hF k hk h3 (by decide)
 ·rw [h2, h3]; exact find_yes hB hF k hk hi h5
theorem use_anyG (h : Sg Kd F w g s) (k : ByteArray) (hk : k.size ≤ 1000000) : Calls Tryz.prog 20 #[.pointer (some ⟨g, 0, none⟩), .string k] w (gotH Kd F w g (useT s k) (lookE s k) (lookN s k)) := by
 obtain ⟨p, ns, q, c, hB, hF⟩ := h.has
 rcases hB.rel.look k with ⟨_, h2, h3⟩ | ⟨_, _, h2, h3⟩ | ⟨i, hi, h1, h2, h3, _, h5, _⟩
 ·have e1 : lookE s k = zeroE := by unfold lookE; rw [if_neg (by rw [h2]; decide)]
  have e2 : useT s k = s := by unfold useT; rw [if_neg (by rw [h2]; decide)]
  rw [h2, e1, e2]; exact use_no hB hF k hk h3 (by decide)
 ·have e1 : lookE s k = zeroE := by unfold lookE; rw [if_neg (by rw [h2]; decide)]
  have e2 : useT s k = s := by unfold useT; rw [if_neg (by rw [h2]; decide)]
  rw [h2, e1, e2]; exact use_no hB hF k hk h3 (by decide)
 ·have e2 : useT s k = { s with l := wo s.l i ++ [en c.E ns[i]] } := by unfold useT; rw [if_pos h2, h1, h3]; rfl
  rw [h2, h3, e2]; exact use_yes hB hF k hk hi h5
theorem use_any (h : St F w g s) (k : ByteArray) (hk : k.size ≤ 1000000) : Calls Tryz.prog 20 #[.pointer (some ⟨g, 0, none⟩), .string k] w (gotPost F w g (useT s k) (lookE s k) (lookN s k)) :=
 (use_anyG h.sg k hk).mono fun _ _ ⟨F', P, y, e, h1, h2, h3, h4⟩ => ⟨F', P, y, e, h1, h2, h3, h4.v⟩
theorem rem_anyG (h : Sg Kd F w g s) (k : ByteArray) (hk : k.size ≤ 1000000) : Calls Tryz.prog 21 #[.pointer (some ⟨g, 0, none⟩), .string k] w (gotH Kd F w g (remT s k) (lookE s k) (lookN s k)) := by
 obtain ⟨p, ns, q, c, hB, hF⟩ := h.has
 rcases hB.rel.look k with ⟨_, h2, h3⟩ | ⟨_, _, h2, h3⟩ | ⟨i, hi, h1, h2, h3, _, h5, _⟩
 ·have e1 : lookE s k = zeroE := by unfold lookE; rw [if_neg (by rw [h2]; decide)]
  have e2 : remT s k = s := by unfold remT; rw [if_neg (by rw [h2]; decide)]
  rw [h2, e1, e2]; exact rem_no hB hF k hk h3 (by decide)
 ·have e1 : lookE s k = zeroE := by unfold lookE; rw [if_neg (by rw [h2]; decide)]
  have e2 : remT s k = s := by unfold remT; rw [if_neg (by rw [h2]; decide)]
  rw [h2, e1, e2]; exact rem_no hB hF k hk h3 (by decide)
 ·have e2 : remT s k = { s with l := wo s.l i } := by unfold remT; rw [if_pos h2, h1]; rfl
  rw [h2, h3, e2]; exact rem_yes hB hF k hk hi h5
theorem rem_any (h : St F w g s) (k : ByteArray) (hk : k.size ≤ 1000000) : Calls Tryz.prog 21 #[.pointer (some ⟨g, 0, none⟩), .string k] w (gotPost F w g (remT s k) (lookE s k) (lookN s k)) :=
 (rem_anyG h.sg k hk).mono fun _ _ ⟨F', P, y, e, h1, h2, h3, h4⟩ => ⟨F', P, y, e, h1, h2, h3, h4.v⟩
theorem tou_any (h : St F w g s) (k : ByteArray) (hk : k.size ≤ 1000000) (d : Int) (hd : 0 ≤ d ∧ d < 18446744073709551616) : Calls Tryz.prog 30 #[.pointer (some ⟨g, 0, none⟩), .string k, .int .u64 d] w (touPost F w g (touT s k d) (lookN s k)) := by
 obtain ⟨p, ns, q, c, hB, hF⟩ := h.has
 rcases hB.rel.look k with ⟨_, h2, h3⟩ | ⟨_, _, h2, h3⟩ | ⟨i, hi, h1, h2, h3, _, h5, _⟩
 ·have e2 : touT s k d = s := by unfold touT; rw [if_neg (by rw [h2]; decide)]
  rw [h2, e2]; exact tou_no hB hF k hk d h3 (by decide)
 ·have e2 : touT s k d = s := by unfold touT; rw [if_neg (by rw [h2]; decide)]
  rw [h2, e2]; exact tou_no hB hF k hk d h3 (by decide)
 ·have e2 : touT s k d = { s with l := wo s.l i ++ [{ en c.E ns[i] with d := d }] } := by unfold touT; rw [if_pos h2, h1, h3]; rfl
  rw [h2, e2]; exact tou_yes hB hF k hk d hd hi h5
theorem used_any (h : St F w g s) : Calls Tryz.prog 38 #[.pointer (some ⟨g, 0, none⟩)] w (Eb.vPost w (.tuple #[.int .i64 (used s.l : Int), .int .i64 (s.l.length : Int)])) := by
 obtain ⟨p, ns, q, c, hB, hF⟩ := h.has
 have HU := Lib.hid (Ik.usable_any hB.lo)
 have HC := Lib.hid (Je.used_any hB.lo.ac)
 have hk := hB.rel.k
 obtain ⟨g0, g1, g2, g3, g4, g5⟩ := Ik.Lo.six hB.lo
 rw [hk] at HC
 simp only [Int.add_zero] at HC
 clear h hB hF hk g0 g1 g2 g3 g4
 go_enter Tryz.func38, Tryz.ntmps38
 go_wp2_with fail
 refine HU.out.mono ?_
 rintro _ w1 ⟨rfl, rfl⟩
 go_wp2_with fail
 refine HC.out.mono ?_
 rintro _ w2 ⟨rfl, hb⟩
 have HB := Lib.hid hb
 clear hb
 go_wp2_with fail
 go_ret2
 exact ⟨rfl, HB.out⟩
theorem next_any (h : St F w g s) : Calls Tryz.prog 32 #[.pointer (some ⟨g, 0, none⟩)] w (Eb.vPost w (.int .u64 (nextT s.l))) := by
 obtain ⟨p, ns, q, c, hB, hF⟩ := h.has
 have HU := Lib.hid (Ik.usable_any hB.lo)
 have HC := Lib.hid (Ye.first_any hB.lo.hp)
 obtain ⟨g0, g1, g2, g3, g4, g5⟩ := Ik.Lo.six hB.lo
 have hgl := hB.lo.lt
 rcases next_is hB hB.lo.hp.srt with ⟨h1, h2⟩ | ⟨x, r, h1, h2⟩
 ·rw [h1] at HC
  rw [h2]
  unfold Ye.oldV Ye.oldN Ye.tval at HC
  simp only [List.headD_nil, List.length_nil, if_true] at HC
  clear h hB hF h1 h2 g0 g1 g2 g3 g5
  go_enter Tryz.func32, Tryz.ntmps32
  go_wp2_with fail
  refine HU.out.mono ?_
  rintro _ w1 ⟨rfl, rfl⟩
  go_wp2_with fail
  refine HC.out.mono ?_
  rintro _ w2 ⟨rfl, hb⟩
  have HB := Lib.hid hb
  clear hb
  go_wp2_with fail
  go_ret
  exact ⟨rfl, HB.out.alloc HB.out.size _⟩
 ·rw [h1] at HC
  rw [h2]
  unfold Ye.oldV Ye.oldN Ye.tval at HC
  simp only [List.headD_cons, List.length_cons] at HC
  rw [if_neg (by omega)] at HC
  clear h hB hF h1 h2 g0 g1 g2 g3 g5
  go_enter Tryz.func32, Tryz.ntmps32
  go_wp2_with fail
  refine HU.out.mono ?_
  rintro _ w1 ⟨rfl, rfl⟩
  go_wp2_with fail
  refine HC.out.mono ?_
  rintro _ w2 ⟨rfl, hb⟩
  have HB := Lib.hid hb
  clear hb
  go_wp2_with fail
  go_ret
  exact ⟨rfl, HB.out.alloc HB.out.size _⟩
end
end Go.Proofs.YtlmljhnogmfcfaaGreat.Ep
