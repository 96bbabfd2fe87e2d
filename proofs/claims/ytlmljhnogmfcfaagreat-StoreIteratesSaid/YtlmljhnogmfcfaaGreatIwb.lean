/- Proves words for the law StoreIterates: what stands between the rounds of its loops. Conditions: as each theorem names them. -/
import Derived.Test.YtlmljhnogmfcfaaGreatIwa
import Derived.Test.YtlmljhnogmfcfaaGreatIl
import Derived.Test.YtlmljhnogmfcfaaGreatEw
import Derived.Laws.AppendOwn
import Derived.Stop.RegionWithIn
import Derived.RangeFuncBox
namespace Go.Proofs.YtlmljhnogmfcfaaGreat.Iwb
open Go.RowKit Go.Shelf Ap Mi Nw Rg Ea Eb Ec Ed Ee Ep Er Es Iwa
open Ef (mV mA)
attribute [local go_sem] Oper.semAt_some

def OnN (Q : Exit → Act → World → Prop) : Exit → Act → World → Prop
 | .normal, a, w => Q .normal a w
 | _, _, _ => False
theorem OnN.normal {Q : Exit → Act → World → Prop} {a : Act} {w : World} (h : Q .normal a w) : OnN Q .normal a w := h
theorem OnN.imp {Q : Exit → Act → World → Prop} : ∀ (e : Exit) (a : Act) (w : World), OnN Q e a w → Q e a w := fun e a w h => by
 cases e <;> first | exact h | exact (h : False).elim
theorem OnN.out {Q : Exit → Act → World → Prop} : ¬ LetsOut (OnN Q) := fun ⟨_, _, h⟩ => h
theorem opInW_of {P : Program} {Q : Exit → Act → World → Prop} {n : Nat} {o : Oper} {a : Act} {w : World} {K K' : Act → World → Prop} (hd : ∀ c, o.op ≠ .defer c) (hK : ∀ a w, K a w → K' a w) (h : o.wp P a w K Q) : o.wpIn Fence.wide n P a w K' Q := by
 refine ⟨fun _ _ => trivial, ?_⟩
 rw [Oper.semAt_eq _ _ _ hd]
 unfold Oper.wp at h
 generalize (execOp a.eval o).run P w = r at h
 cases r with
 | ok x w' =>
  cases x <;> simp only [Oper.upon, Oper.uponIn] at h ⊢
  case value u => exact hK _ _ h
  case skip => exact hK _ _ h
  case defer d => exact hK _ _ h
  case enter f args =>
   refine ⟨(fun hh => by cases hh), callsIn_wide.2 (Calls.mono h fun e w'' he => ?_)⟩
   cases e with
   | returned v => exact hK _ _ he
   | panicked c => exact he
   | outgrown => exact he
  case row row args => exact ⟨(fun hh => by cases hh), fun c cs hr => (Il.rowsIn_of (n := n - 1) (Rows.mono h fun _ _ he => hK _ _ he)) c cs hr⟩
 | halt x w' =>
  cases x <;> simp only [Oper.upon, Oper.uponIn] at h ⊢
  case panic u => exact h
theorem opsInW_of {P : Program} {ops : Array Oper} {Q : Exit → Act → World → Prop} {n : Nat} (hL : ¬ LetsOut Q) (hd : ∀ (i : Nat) o, ops[i]? = some o → ∀ c, o.op ≠ .defer c) : ∀ (is : List Nat) (a : Act) (w : World), wpOps P ops Q is a w → wpOpsIn Fence.wide n P ops Q is a w
 | [], _, _, h => h
 | i :: rest, a, w, h => by
  unfold wpOps at h
  unfold wpOpsIn
  cases hi : ops[i]? with
  | none => rw [hi] at h; exact opsInW_of hL hd rest a w h
  | some o =>
   rw [hi] at h
   simp only at h ⊢
   split
   ·rename_i hw
    rw [if_pos hw] at h
    rcases h with h | ⟨_, h⟩
    ·exact opInW_of (hd i o hi) (fun a w h => opsInW_of hL hd rest a w h) h
    ·exact absurd h hL
   ·rename_i hw
    rw [if_neg hw] at h
    exact ⟨fun _ _ => trivial, opsInW_of hL hd rest _ w h⟩
theorem wpInW_region_G {P : Program} {ops : Array Oper} {Q : Exit → Act → World → Prop} {n id : Nat} {a : Act} {w : World} (k : Nat) (S : World → Prop) (hm : P.follows .mixedOrders = true) (hL : ¬ LetsOut Q) (hd : (ops.all fun o => !Il.isDefer o.op) = true)
  (h : wpAnyG P .any ops Q S k ops.size (Array.replicate ops.size false) a w.drew) : (Code.region id ops true).wpIn Fence.wide n P Q a w :=
 wpIn_region_draw fun t => by
  simp only [Region.schedule, hm, Bool.true_or, if_true]
  refine opsInW_of hL (fun i o hi c e => ?_) _ _ _ (wpAny_sound ops.size t _ a _ h.plain)
  rw [Array.all_eq_true] at hd
  obtain ⟨hil, ho⟩ := Array.getElem?_eq_some_iff.1 hi
  have := hd i hil
  rw [ho, e] at this
  cases this
theorem conv_run (w : World) (s : ByteArray) : (convert 9 38 (.string s)).run Tryz.prog w = .ok (.slice (some ⟨w.heap.size, 0, none⟩) s.size (grownCap w s.size 0 5)) (Lib.bytesWorld w 5 s) :=
 Lib.run_convert_string_bytes w 9 38 5 s Tryz.underlying9 Tryz.underlying38 Tryz.underlying5
theorem bw_below (w : World) (s : ByteArray) : Below w.heap.size w (Lib.bytesWorld w 5 s) :=
 ⟨rfl, rfl, rfl, by rw [Lib.bytesWorld_size]; omega, fun k hk => Lib.bytesWorld_at_old w _ _ k hk⟩
theorem bw_row (w : World) (s : ByteArray) (hs : s.size ≤ 1000) : Rs (Lib.bytesWorld w 5 s) 1 (some ⟨w.heap.size, 0, none⟩) s.size (grownCap w s.size 0 5) (byV s.data.toList) := by
 have hl : (byV s.data.toList).length = s.size := by rw [byV_len]; simp
 refine ⟨fun _ => ⟨w.heap.size, 0, rfl, ?_, fun k hk => ?_⟩, by rw [hl]; omega, grownCap_ge _ _ _ _, grownCap_le_maxLen _ _ _ _ (by unfold maxLen; omega), fun e => by cases e⟩
 ·rw [Lib.bytesWorld_size]; omega
 ·have hlt : k < s.data.toList.length := by rw [byV_len] at hk; exact hk
  rw [Nat.zero_add, Lib.bytesWorld_cell w 5 s k (by simpa using hlt)]
  simp [byV, List.getD_eq_getElem?_getD, List.getElem?_eq_getElem hlt]
def keyE (k : ByteArray) (i : Nat) : En := ⟨k, k.data.toList, [], (i : Int), 0, 0⟩
def keyM (k : ByteArray) (i A c : Nat) : Em := ⟨keyE k i, some ⟨A, 0, none⟩, c, none, 0⟩
structure Fx (x : ByteArray) (k : Nat) (w : World) (b9 b1 c1 : Nat) (V : World) : Prop where
 bk : Blk V b9 #[.string x, .slice (some ⟨b1, 0, none⟩) x.size c1, .slice none 0 0, .int .u64 (k : Int), .int .u64 0, .int .u64 0] 42
 re : RE (fun j => j = b1) V (keyM x k b1 c1)
 bl : Below w.heap.size w V
 l9 : w.heap.size ≤ b9
 l1 : w.heap.size ≤ b1 ∧ b1 < V.heap.size
theorem key_len (k : ByteArray) : k.data.toList.length = k.size := by simp
theorem key_cost (k : ByteArray) (i : Nat) (hk : k.size ≤ 10) : cost (keyE k i) ≤ 84 := by
 have h : sumT (keyE k i).t (keyE k i).t.length = 0 := by simp [keyE, sumT]
 unfold cost
 rw [h]
 show k.size + k.data.toList.length + 64 + 0 ≤ 84
 rw [key_len]; omega
theorem key_fit (k : ByteArray) (i : Nat) (hk : k.size ≤ 10) (hi : i ≤ 20) : Fit (keyE k i) :=
 ⟨by show k.size ≤ _; omega, by show k.data.toList.length ≤ _; rw [key_len]; omega, Nat.zero_le _, (fun t ht => by cases ht), ⟨by show (0 : Int) ≤ (i : Int); omega, by show (i : Int) < _; omega⟩, ⟨Int.le_refl 0, (by decide : (0 : Int) < 18446744073709551616)⟩, ⟨Int.le_refl 0, (by decide : (0 : Int) < 18446744073709551616)⟩⟩
theorem key_re {x : ByteArray} {k b c : Nat} {V : World} (hr : Rs V 1 (some ⟨b, 0, none⟩) x.size c (byV x.data.toList)) (hx : x.size ≤ 10) (hk : k ≤ 20) : RE (fun j => j = b) V (keyM x k b c) := by
 refine ⟨key_fit x k hx hk, ?_, Rs.nil _ _, (fun a e => by cases e; rfl), (fun a e => by cases e)⟩
 show Rs V 1 (some ⟨b, 0, none⟩) x.data.toList.length c (byV x.data.toList)
 rw [key_len]; exact hr
theorem Fx.of_new {x : ByteArray} {k : Nat} {w u V : World} {c : Nat} (hu : Below w.heap.size w u) (hz : u.heap.size = w.heap.size) (hr : Rs V 1 (some ⟨u.heap.size, 0, none⟩) x.size c (byV x.data.toList)) (hb : Below u.heap.size u V) (hs : V.heap.size = u.heap.size + 1) (hx : x.size ≤ 10) (hk20 : k ≤ 20) :
  Fx x k w V.heap.size u.heap.size c (V.alloc (.cells #[.string x, .slice (some ⟨u.heap.size, 0, none⟩) x.size c, .slice none 0 0, .int .u64 (k : Int), .int .u64 0, .int .u64 0] 42)) := by
 have hA := bnew V (.cells #[.string x, .slice (some ⟨u.heap.size, 0, none⟩) x.size c, .slice none 0 0, .int .u64 (k : Int), .int .u64 0, .int .u64 0] 42)
 have hbl := (hu.trans (hb.mono (by omega))).trans (hA.mono (by omega))
 exact ⟨Blk.new V _ _, key_re (hr.below hA (Nat.le_refl _)) hx hk20, hbl, by omega, by omega, by have := hA.size; omega⟩
theorem Fx.of_old {x : ByteArray} {k : Nat} {w u U V : World} {c : Nat} (hu : Below w.heap.size w u) (hz : u.heap.size = w.heap.size) (hr : Rs V 1 (some ⟨U.heap.size, 0, none⟩) x.size c (byV x.data.toList)) (hb : Below U.heap.size U V) (hU : Below u.heap.size u U) (hs : U.heap.size = u.heap.size + 1) (hlt : V.heap.size = U.heap.size + 1) (hk : Blk V u.heap.size zA 42) (hx : x.size ≤ 10) (hk20 : k ≤ 20) :
  Fx x k w u.heap.size U.heap.size c (put6 V u.heap.size (.string x) (.slice (some ⟨U.heap.size, 0, none⟩) x.size c) (.slice none 0 0) (.int .u64 (k : Int)) (.int .u64 0) (.int .u64 0)) := by
 have ho := put6_only V u.heap.size (.string x) (.slice (some ⟨U.heap.size, 0, none⟩) x.size c) (.slice none 0 0) (.int .u64 (k : Int)) (.int .u64 0) (.int .u64 0)
 have hbl : Below w.heap.size w V := (hu.trans (hU.mono (by omega))).trans (hb.mono (by omega))
 refine ⟨put6_blk hk _ _ _ _ _ _, key_re (hr.only ho (fun a e => by cases e; show ¬ U.heap.size = u.heap.size; omega)) hx hk20, hbl.trans (ho.below (fun j e => by omega) hbl.size), by omega, by omega, ?_⟩
 have := ho.size; omega
theorem used_84 : ∀ {l : List En}, (∀ x ∈ l, cost x ≤ 84) → used l ≤ l.length * 84
 | [], _ => by simp [used_nil]
 | x :: l, h => by
  rw [used_cons]
  have h1 := h x (by simp)
  have h2 := used_84 (l := l) fun y hy => h y (List.mem_cons_of_mem _ hy)
  simp only [List.length_cons]; omega
theorem key_put {l : List En} {x : En} (hk : keyOk x.k) (ht : x.t = []) (hv : x.v.length ≤ 65536) (hc : cost x ≤ 84) (hl : l.length ≤ 20) (hu : ∀ y ∈ l, cost y ≤ 84) :
  putN ⟨1048576, 100, l⟩ x = 0 ∧ putG ⟨1048576, 100, l⟩ x = [] ∧ (putT ⟨1048576, 100, l⟩ x).l = rest id l x.k ++ [x] := by
 have h0 : putN ⟨1048576, 100, l⟩ x = 0 := Ew.putE_ok hk (by rw [ht]; exact Ew.okT_nil) hv (by show ((cost x : Nat) : Int) ≤ 1048576; omega)
 have hr : (rest id l x.k).length ≤ l.length := rest_len id l x.k
 have hu' : used (rest id l x.k) ≤ (rest id l x.k).length * 84 := used_84 fun y hy => hu y (rest_mem hy)
 have hn : evN 1048576 100 (cost x) (rest id l x.k) = 0 := by
  rcases Nat.eq_zero_or_pos (evN 1048576 100 (cost x) (rest id l x.k)) with h | h
  ·exact h
  ·have hq := evN_go h
   unfold evQ at hq
   simp only [List.drop_zero] at hq
   rcases hq with hq | hq <;> omega
 refine ⟨h0, ?_, ?_⟩
 ·unfold putG
  rw [if_pos h0]
  show (rest id l x.k).take (evN 1048576 100 (cost x) (rest id l x.k)) = []
  rw [hn]; rfl
 ·unfold putT
  rw [if_pos h0]
  show (rest id l x.k).drop (evN 1048576 100 (cost x) (rest id l x.k)) ++ [x] = _
  rw [hn]; rfl
structure Bx (N b3 b4 b5 b7 : Nat) (many : Int) (F G : Nat → Prop) (g : Nat) (A : Option Addr) (c : Nat) (l : List Em) (w : World) : Prop where
 co : Co F G w g ⟨1048576, 100, l.map Em.e⟩ A c l
 p3 : Blk w b3 #[.int .u8 many] 5
 p4 : Blk w b4 #[.bool false] 4
 p5 : Blk w b5 #[.pointer (some ⟨g, 0, none⟩)] 23
 p7 : Blk w b7 #[.int .i64 1048576, .int .i64 100, .slice A l.length c] 32
 fz : ∀ j, F j → N ≤ j ∧ j ≠ b3 ∧ j ≠ b4 ∧ j ≠ b5 ∧ j ≠ b7
 gz : ∀ j, G j → N ≤ j ∧ j ≠ b3 ∧ j ≠ b4 ∧ j ≠ b5 ∧ j ≠ b7
 le : l.length ≤ 20
 cs : ∀ x ∈ l, cost x.e ≤ 84
variable {N b3 b4 b5 b7 : Nat} {many : Int} {F G : Nat → Prop} {g : Nat} {A : Option Addr} {c : Nat} {l : List Em} {w w' : World}
theorem Bx.only (h : Bx N b3 b4 b5 b7 many F G g A c l w) {P : Nat → Prop} (ho : Only P w w') (hP : ∀ j, P j → ¬ F j ∧ ¬ G j ∧ j ≠ b3 ∧ j ≠ b4 ∧ j ≠ b5 ∧ j ≠ b7) : Bx N b3 b4 b5 b7 many F G g A c l w' :=
 ⟨⟨h.co.st.only ho (fun j hj hp => (hP j hp).1 hj), h.co.r.only ho (fun j hp => (hP j hp).2.1), h.co.m, h.co.d, fun j hj => Nat.lt_of_lt_of_le (h.co.f j hj) ho.size, fun j hj => Nat.lt_of_lt_of_le (h.co.t j hj) ho.size, h.co.n⟩,
  h.p3.only ho (fun hp => (hP _ hp).2.2.1 rfl), h.p4.only ho (fun hp => (hP _ hp).2.2.2.1 rfl), h.p5.only ho (fun hp => (hP _ hp).2.2.2.2.1 rfl), h.p7.only ho (fun hp => (hP _ hp).2.2.2.2.2 rfl), h.fz, h.gz, h.le, h.cs⟩
theorem Bx.below (h : Bx N b3 b4 b5 b7 many F G g A c l w) (hb : Below w.heap.size w w') : Bx N b3 b4 b5 b7 many F G g A c l w' := h.only (Only.of_below hb (Nat.le_refl _) (fun _ => False)) (fun _ hf => hf.elim)
theorem key_v (x : ByteArray) (k b c : Nat) : emV (keyM x k b c) = .agg #[.string x, .slice (some ⟨b, 0, none⟩) x.size c, .slice none 0 0, .int .u64 (k : Int), .int .u64 0, .int .u64 0] := by
 show Value.agg #[.string x, .slice (some ⟨b, 0, none⟩) x.data.toList.length c, .slice none 0 0, .int .u64 (k : Int), .int .u64 0, .int .u64 0] = _
 rw [key_len]
theorem Bx.next {n k : Nat} {x : ByteArray} {V w4 w5 w6 : World} (h : Bx N b3 b4 b5 b7 many F G g A c l V) (hk : l.length ≤ n) (hn : n < 20) (hx : keyOk x) (hx10 : x.size ≤ 10) {A' : Option Addr} {c' : Nat} {l' : List Em} (hN : Nx G V w4 (putT ⟨1048576, 100, l.map Em.e⟩ (keyE x k)).l A' c' l')
  (hb : Below w4.heap.size w4 w5) {F' : Nat → Prop} (hst : St F' w6 g (putT ⟨1048576, 100, l.map Em.e⟩ (keyE x k))) (hf : ∀ j, F' j → More F w5 j) (ho : Only F w5 w6) (hNV : N ≤ V.heap.size) :
  l'.length ≤ n + 1 ∧ Bx N b3 b4 b5 b7 many (fun j => F' j ∧ j < w6.heap.size) (Tn G V w4) g A' c' l' (Ef.put3 w6 b7 (.int .i64 1048576) (.int .i64 100) (.slice A' l'.length c')) := by
 obtain ⟨e0, e1, e2⟩ := key_put (l := l.map Em.e) (x := keyE x k) hx rfl (by show x.data.toList.length ≤ _; rw [key_len]; omega) (key_cost x k hx10) (by simpa using h.le) (fun y hy => by
  obtain ⟨z, hz, rfl⟩ := List.mem_map.1 hy; exact h.cs z hz)
 have hm := hN.m
 have hll : l'.length ≤ n + 1 := by
  have h1 := congrArg List.length hm
  rw [e2, List.length_map, List.length_append] at h1
  have h2 := rest_len id (l.map Em.e) x
  simp at h1 h2
  have h3 : (rest id (l.map Em.e) (keyE x k).k).length ≤ l.length := h2
  omega
 have hs : putT ⟨1048576, 100, l.map Em.e⟩ (keyE x k) = ⟨1048576, 100, l'.map Em.e⟩ := by
  obtain ⟨h1, h2⟩ := bs_p ⟨1048576, 100, l.map Em.e⟩ (keyE x k)
  rw [hm]
  generalize putT ⟨1048576, 100, l.map Em.e⟩ (keyE x k) = s at h1 h2 ⊢
  obtain ⟨a, b, cc⟩ := s
  simp only at h1 h2
  rw [h1, h2]
 rw [hs] at hst
 have z4 := hN.b.size
 have z5 := hb.size
 have z6 := ho.size
 have l3 := h.p3.lt; have l4 := h.p4.lt; have l5 := h.p5.lt; have l7 := h.p7.lt
 have p3 := ((h.p3.below hN.b l3).below hb (by omega)).only ho (fun hq => (h.fz _ hq).2.1 rfl)
 have p4 := ((h.p4.below hN.b l4).below hb (by omega)).only ho (fun hq => (h.fz _ hq).2.2.1 rfl)
 have p5 := ((h.p5.below hN.b l5).below hb (by omega)).only ho (fun hq => (h.fz _ hq).2.2.2.1 rfl)
 have p7 := ((h.p7.below hN.b l7).below hb (by omega)).only ho (fun hq => (h.fz _ hq).2.2.2.2 rfl)
 have hrl := (hN.r.below hb (Nat.le_refl _)).only ho (fun j hq ht => by
  rcases ht with h1 | h1
  ·exact h.co.d j hq h1
  ·have := h.co.f j hq; omega)
 have o7 := Ef.put3_only w6 b7 (.int .i64 1048576) (.int .i64 100) (.slice A' l'.length c')
 have h34 : b7 ≠ b3 ∧ b7 ≠ b4 ∧ b7 ≠ b5 := by
  refine ⟨fun e => ?_, fun e => ?_, fun e => ?_⟩
  ·have h1 := h.p7.cell 1; have h2 := h.p3.cell 1; rw [e] at h1; rw [h1] at h2; cases h2
  ·have h1 := h.p7.cell 1; have h2 := h.p4.cell 1; rw [e] at h1; rw [h1] at h2; cases h2
  ·have h1 := h.p7.cell 1; have h2 := h.p5.cell 1; rw [e] at h1; rw [h1] at h2; cases h2
 have fF : ∀ j, F' j ∧ j < w6.heap.size → N ≤ j ∧ j ≠ b3 ∧ j ≠ b4 ∧ j ≠ b5 ∧ j ≠ b7 := fun j hj => by
  rcases hf j hj.1 with h1 | h1
  ·exact h.fz j h1
  ·exact ⟨by omega, by omega, by omega, by omega, by omega⟩
 have gF : ∀ j, Tn G V w4 j → N ≤ j ∧ j ≠ b3 ∧ j ≠ b4 ∧ j ≠ b5 ∧ j ≠ b7 := fun j hj => by
  rcases hj with h1 | h1
  ·exact h.gz j h1
  ·exact ⟨by omega, by omega, by omega, by omega, by omega⟩
 refine ⟨hll, ⟨hst.tight.only o7 (fun j hj e => (fF j hj).2.2.2.2 e), hrl.only o7 (fun j e hj => (gF j hj).2.2.2.2 e), rfl, fun j hj ht => ?_, fun j hj => Nat.lt_of_lt_of_le hj.2 o7.size, fun j hj => ?_, by omega⟩, p3.only o7 (fun e => h34.1 e.symm), p4.only o7 (fun e => h34.2.1 e.symm), p5.only o7 (fun e => h34.2.2 e.symm), Ef.put3_blk p7 _ _ _, fF, gF, by omega, fun y hy => ?_⟩
 ·rcases hf j hj.1 with h1 | h1
  ·rcases ht with h2 | h2
   ·exact h.co.d j h1 h2
   ·have := h.co.f j h1; omega
  ·rcases ht with h2 | h2
   ·have := h.co.t j h2; omega
   ·omega
 ·have := o7.size
  rcases hj with h1 | h1
  ·have := h.co.t j h1; omega
  ·omega
 ·have h1 : y.e ∈ l'.map Em.e := List.mem_map_of_mem hy
  rw [hm, e2] at h1
  rcases List.mem_append.1 h1 with h2 | h2
  ·obtain ⟨z, hz, e⟩ := List.mem_map.1 (rest_mem h2)
   rw [← e]; exact h.cs z hz
  ·rw [List.mem_singleton.1 h2]; exact key_cost x k hx10
def mkD (D : Nat) : Deferred := { target := .collected D, args := #[] }
theorem leave_marks {F : Fence} {n : Nat} {P : Program} {fn : Func} {tmps : Array Value} {R : Ending → World → Prop} : ∀ (ms : List Nat) (w : World), ms.Nodup → (∀ D ∈ ms, w.heap[D]? = some (.deferred (some []))) → (∀ w', Only (fun j => j ∈ ms) w w' → LeavesInM F n P fn tmps R [] .returning w') → LeavesInM F n P fn tmps R (ms.map mkD) .returning w
 | [], w, _, _, h => h w (Only.refl _ _)
 | D :: ms, w, hd, hm, h => by
  obtain ⟨d1, d2⟩ := List.nodup_cons.1 hd
  have ho : Only (fun j => j = D) w (w.putObj D (.deferred none)) := Only.of_grown (grownBy_putObj' w D _) (fun k e => by cases e; rfl)
  refine ⟨by simp, .inl ⟨D, _, rfl, run_takeDeferred (hm D (by simp)), leave_marks ms _ d2 (fun D' hD' => ?_) (fun w' ho' => h w' ?_)⟩⟩
  ·have h1 := hm D' (List.mem_cons_of_mem _ hD')
   rw [ho.block D' (Array.getElem?_eq_some_iff.1 h1).1 (fun e => d1 (e ▸ hD'))]; exact h1
  ·exact (ho.mono fun j _ e => by rw [e]; simp).trans (ho'.mono fun j _ hj => Or.inl (List.mem_cons_of_mem _ hj))
theorem rounds_by {F : Fence} {n : Nat} {P : Program} {c : Code} {Q : Exit → Act → World → Prop} {I : Nat → Act → World → Prop} (M : Nat)
  (hr : ∀ t a w, t ≤ M → I t a w → c.wpIn F n P (Exit.then (fun a' w' => t < M ∧ I (t + 1) a' w') Q) a w) : ∀ (m t : Nat) (a : Act) (w : World), t + m = M + 1 → I t a w → t ≤ M → Code.roundsIn F n P c Q m a w
 | 0, t, a, w, h, _, ht => by omega
 | m + 1, t, a, w, h, hi, ht => by
  refine Code.wpIn_mono (fun e a' w' q => ?_) (hr t a w ht hi)
  cases e with
  | normal => exact rounds_by M hr m (t + 1) a' w' (by omega) q.2 (by have := q.1; omega)
  | _ => exact q
structure Fr (a : Go.Act) (b3 b4 b5 b7 gf : Nat) (lb : Array Value) (b14 : Nat) (ds : List Deferred) : Prop where
 df : a.defers = ds
 sz : a.tmps.size = 138
 h3 : a.tmps.getD 3 undef = .pointer (some ⟨b3, 0, none⟩)
 h4 : a.tmps.getD 4 undef = .pointer (some ⟨b4, 0, none⟩)
 h5 : a.tmps.getD 5 undef = .pointer (some ⟨b5, 0, none⟩)
 h7 : a.tmps.getD 7 undef = .pointer (some ⟨b7, 0, none⟩)
 h13 : a.tmps.getD 13 undef = .func (.func gf) #[] lb
 h14 : a.tmps.getD 14 undef = .pointer (some ⟨b14, 0, none⟩)
set_option maxRecDepth 1000000 in
theorem arr_eq (t : Array Value) (h : t.size = 138) : t = #[t.getD 0 undef, t.getD 1 undef, t.getD 2 undef, t.getD 3 undef, t.getD 4 undef, t.getD 5 undef, t.getD 6 undef, t.getD 7 undef, t.getD 8 undef, t.getD 9 undef, t.getD 10 undef, t.getD 11 undef, t.getD 12 undef, t.getD 13 undef, t.getD 14 undef, t.getD 15 undef, t.getD 16 undef, t.getD 17 undef, t.getD 18 undef, t.getD 19 undef, t.getD 20 undef, t.getD 21 undef, t.getD 22 undef, t.getD 23 undef, t.getD 24 undef, t.getD 25 undef, t.getD 26 undef, t.getD 27 undef, t.getD 28 undef, t.getD 29 undef, t.getD 30 undef, t.getD 31 undef, t.getD 32 undef, t.getD 33 undef, t.getD 34 undef, t.getD 35 undef, t.getD 36 undef, t.getD 37 undef, t.getD 38 undef, t.getD 39 undef, t.getD 40 undef, t.getD 41 undef, t.getD 42 undef, t.getD 43 undef, t.getD 44 undef, t.getD 45 undef, t.getD 46 undef, t.getD 47 undef, t.getD 48 undef, t.getD 49 undef, t.getD 50 undef, t.getD 51 undef, t.getD 52 undef, t.getD 53 undef, t.getD 54 undef, t.getD 55 undef, t.getD 56 undef, t.getD 57 undef, t.getD 58 undef, t.getD 59 undef, t.getD 60 undef, t.getD 61 undef, t.getD 62 undef, t.getD 63 undef, t.getD 64 undef, t.getD 65 undef, t.getD 66 undef, t.getD 67 undef, t.getD 68 undef, t.getD 69 undef, t.getD 70 undef, t.getD 71 undef, t.getD 72 undef, t.getD 73 undef, t.getD 74 undef, t.getD 75 undef, t.getD 76 undef, t.getD 77 undef, t.getD 78 undef, t.getD 79 undef, t.getD 80 undef, t.getD 81 undef, t.getD 82 undef, t.getD 83 undef, t.getD 84 undef, t.getD 85 undef, t.getD 86 undef, t.getD 87 undef, t.getD 88 undef, t.getD 89 undef, t.getD 90 undef, t.getD 91 undef, t.getD 92 undef, t.getD 93 undef, t.getD 94 undef, t.getD 95 undef, t.getD 96 undef, t.getD 97 undef, t.getD 98 undef, t.getD 99 undef, t.getD 100 undef, t.getD 101 undef, t.getD 102 undef, t.getD 103 undef, t.getD 104 undef, t.getD 105 undef, t.getD 106 undef, t.getD 107 undef, t.getD 108 undef, t.getD 109 undef, t.getD 110 undef, t.getD 111 undef, t.getD 112 undef, t.getD 113 undef, t.getD 114 undef, t.getD 115 undef, t.getD 116 undef, t.getD 117 undef, t.getD 118 undef, t.getD 119 undef, t.getD 120 undef, t.getD 121 undef, t.getD 122 undef, t.getD 123 undef, t.getD 124 undef, t.getD 125 undef, t.getD 126 undef, t.getD 127 undef, t.getD 128 undef, t.getD 129 undef, t.getD 130 undef, t.getD 131 undef, t.getD 132 undef, t.getD 133 undef, t.getD 134 undef, t.getD 135 undef, t.getD 136 undef, t.getD 137 undef] := by
 have e : #[t.getD 0 undef, t.getD 1 undef, t.getD 2 undef, t.getD 3 undef, t.getD 4 undef, t.getD 5 undef, t.getD 6 undef, t.getD 7 undef, t.getD 8 undef, t.getD 9 undef, t.getD 10 undef, t.getD 11 undef, t.getD 12 undef, t.getD 13 undef, t.getD 14 undef, t.getD 15 undef, t.getD 16 undef, t.getD 17 undef, t.getD 18 undef, t.getD 19 undef, t.getD 20 undef, t.getD 21 undef, t.getD 22 undef, t.getD 23 undef, t.getD 24 undef, t.getD 25 undef, t.getD 26 undef, t.getD 27 undef, t.getD 28 undef, t.getD 29 undef, t.getD 30 undef, t.getD 31 undef, t.getD 32 undef, t.getD 33 undef, t.getD 34 undef, t.getD 35 undef, t.getD 36 undef, t.getD 37 undef, t.getD 38 undef, t.getD 39 undef, t.getD 40 undef, t.getD 41 undef, t.getD 42 undef, t.getD 43 undef, t.getD 44 undef, t.getD 45 undef, t.getD 46 undef, t.getD 47 undef, t.getD 48 undef, t.getD 49 undef, t.getD 50 undef, t.getD 51 undef, t.getD 52 undef, t.getD 53 undef, t.getD 54 undef, t.getD 55 undef, t.getD 56 undef, t.getD 57 undef, t.getD 58 undef, t.getD 59 undef, t.getD 60 undef, t.getD 61 undef, t.getD 62 undef, t.getD 63 undef, t.getD 64 undef, t.getD 65 undef, t.getD 66 undef, t.getD 67 undef, t.getD 68 undef, t.getD 69 undef, t.getD 70 undef, t.getD 71 undef, t.getD 72 undef, t.getD 73 undef, t.getD 74 undef, t.getD 75 undef, t.getD 76 undef, t.getD 77 undef, t.getD 78 undef, t.getD 79 undef, t.getD 80 undef, t.getD 81 undef, t.getD 82 undef, t.getD 83 undef, t.getD 84 undef, t.getD 85 undef, t.getD 86 undef, t.getD 87 undef, t.getD 88 undef, t.getD 89 undef, t.getD 90 undef, t.getD 91 undef, t.getD 92 undef, t.getD 93 undef, t.getD 94 undef, t.getD 95 undef, t.getD 96 undef, t.getD 97 undef, t.getD 98 undef, t.getD 99 undef, t.getD 100 undef, t.getD 101 undef, t.getD 102 undef, t.getD 103 undef, t.getD 104 undef, t.getD 105 undef, t.getD 106 undef, t.getD 107 undef, t.getD 108 undef, t.getD 109 undef, t.getD 110 undef, t.getD 111 undef, t.getD 112 undef, t.getD 113 undef, t.getD 114 undef, t.getD 115 undef, t.getD 116 undef, t.getD 117 undef, t.getD 118 undef, t.getD 119 undef, t.getD 120 undef, t.getD 121 undef, t.getD 122 undef, t.getD 123 undef, t.getD 124 undef, t.getD 125 undef, t.getD 126 undef, t.getD 127 undef, t.getD 128 undef, t.getD 129 undef, t.getD 130 undef, t.getD 131 undef, t.getD 132 undef, t.getD 133 undef, t.getD 134 undef, t.getD 135 undef, t.getD 136 undef, t.getD 137 undef] = (List.range 138).toArray.map (fun i => t.getD i undef) := by kernel_rfl
 refine Array.toList_inj.1 ?_
 rw [e]
 refine List.ext_getElem (by simp [h]) (fun i h1 h2 => ?_)
 have hi : i < t.size := by simpa using h1
 simp [Array.getD, hi]
set_option maxRecDepth 1000000 in
theorem Fr.opened {a : Go.Act} {b3 b4 b5 b7 gf : Nat} {lb : Array Value} {b14 : Nat} {ds : List Deferred} (h : Fr a b3 b4 b5 b7 gf lb b14 ds) : ∃ f : Nat → Value, a = ⟨#[f 0, f 1, f 2, .pointer (some ⟨b3, 0, none⟩), .pointer (some ⟨b4, 0, none⟩), .pointer (some ⟨b5, 0, none⟩), f 6, .pointer (some ⟨b7, 0, none⟩), f 8, f 9, f 10, f 11, f 12, .func (.func gf) #[] lb, .pointer (some ⟨b14, 0, none⟩), f 15, f 16, f 17, f 18, f 19, f 20, f 21, f 22, f 23, f 24, f 25, f 26, f 27, f 28, f 29, f 30, f 31, f 32, f 33, f 34, f 35, f 36, f 37, f 38, f 39, f 40, f 41, f 42, f 43, f 44, f 45, f 46, f 47, f 48, f 49, f 50, f 51, f 52, f 53, f 54, f 55, f 56, f 57, f 58, f 59, f 60, f 61, f 62, f 63, f 64, f 65, f 66, f 67, f 68, f 69, f 70, f 71, f 72, f 73, f 74, f 75, f 76, f 77, f 78, f 79, f 80, f 81, f 82, f 83, f 84, f 85, f 86, f 87, f 88, f 89, f 90, f 91, f 92, f 93, f 94, f 95, f 96, f 97, f 98, f 99, f 100, f 101, f 102, f 103, f 104, f 105, f 106, f 107, f 108, f 109, f 110, f 111, f 112, f 113, f 114, f 115, f 116, f 117, f 118, f 119, f 120, f 121, f 122, f 123, f 124, f 125, f 126, f 127, f 128, f 129, f 130, f 131, f 132, f 133, f 134, f 135, f 136, f 137], ds⟩ := by
 refine ⟨fun i => a.tmps.getD i undef, ?_⟩
 have e := arr_eq a.tmps h.sz
 rw [h.h3, h.h4, h.h5, h.h7, h.h13, h.h14] at e
 show (⟨a.tmps, a.defers⟩ : Go.Act) = ⟨_, ds⟩
 rw [h.df]
 exact congrArg (fun t => (⟨t, ds⟩ : Go.Act)) e
def Zf (W : World) (b5 : Nat) (G : Nat → Prop) (j : Nat) : Prop := j < W.heap.size + 2 ∨ j = b5 ∨ j = b5 + 1 ∨ G j
structure Gl (W : World) (b5 n0 Bs : Nat) (K G : Nat → Prop) (L lm : List Em) : Prop where
 kb : K Bs
 kn : ∀ j, K j → j < n0 ∧ ¬ Zf W b5 G j
 zn : ∀ j, Zf W b5 G j → j < n0
 b5 : W.heap.size + 2 ≤ b5
 le : L.length = lm.length
 em : L.map Em.e = lm.map Em.e
 few : lm.length ≤ 20
structure Tw (W : World) (b5 n0 Bs g : Nat) (many : Int) (K G : Nat → Prop) (A0 : Option Addr) (L : List Em) (c0 : Nat) (Am : Option Addr) (lm : List Em) (cm : Nat) (zs : List Nat) (t b14 : Nat) (ms : List Nat) (w : World) : Prop where
 lp : Lp K (fun j => Zf W b5 G j ∨ j ∈ zs) g w
 p3 : Blk w W.heap.size #[.int .u8 many] 5
 p4 : Blk w (W.heap.size + 1) #[.bool false] 4
 p5 : Blk w b5 #[.pointer (some ⟨g, 0, none⟩)] 23
 p7 : Blk w (b5 + 1) #[.int .i64 1048576, .int .i64 100, .slice Am lm.length cm] 32
 rm : RL G w Am cm lm
 cb : w.cell? ⟨Bs, 0, none⟩ = some (.slice A0 L.length c0)
 rl : RL K w A0 c0 L
 pt : Blk w b14 #[.int .i64 (t : Int)] 3
 nt : n0 ≤ b14
 nd : ms.Nodup
 md : ∀ D ∈ ms, n0 ≤ D ∧ w.heap[D]? = some (.deferred (some []))
 bl : Below W.heap.size W w
section
variable {W : World} {b5 n0 Bs g : Nat} {many : Int} {K G : Nat → Prop} {A0 : Option Addr} {L : List Em} {c0 : Nat} {Am : Option Addr} {lm : List Em} {cm : Nat} {zs zs' : List Nat} {t b14 : Nat} {ms : List Nat} {w w' : World}
theorem Tw.step (h : Tw W b5 n0 Bs g many K G A0 L c0 Am lm cm zs t b14 ms w) (gl : Gl W b5 n0 Bs K G L lm) {P : Nat → Prop} (ho : Only P w w') (hP : ∀ j, P j → ¬ K j ∧ ¬ Zf W b5 G j ∧ j ≠ b14 ∧ j ∉ ms) (hl : Lp K (fun j => Zf W b5 G j ∨ j ∈ zs') g w') : Tw W b5 n0 Bs g many K G A0 L c0 Am lm cm zs' t b14 ms w' where
 lp := hl
 p3 := h.p3.only ho fun hp => (hP _ hp).2.1 (Or.inl (by omega))
 p4 := h.p4.only ho fun hp => (hP _ hp).2.1 (Or.inl (by omega))
 p5 := h.p5.only ho fun hp => (hP _ hp).2.1 (Or.inr (Or.inl rfl))
 p7 := h.p7.only ho fun hp => (hP _ hp).2.1 (Or.inr (Or.inr (Or.inl rfl)))
 rm := h.rm.only ho fun j hp hg => (hP _ hp).2.1 (Or.inr (Or.inr (Or.inr hg)))
 cb := (ho.cell (a := ⟨Bs, 0, none⟩) (h.lp.kl gl.kb) (fun hp => (hP _ hp).1 gl.kb)).trans h.cb
 rl := h.rl.only ho fun j hp hk => (hP _ hp).1 hk
 pt := h.pt.only ho fun hp => (hP _ hp).2.2.1 rfl
 nt := h.nt
 nd := h.nd
 md := fun D hD => ⟨(h.md D hD).1, by
  have h1 := (h.md D hD).2
  rw [ho.block D (Array.getElem?_eq_some_iff.1 h1).1 (fun hp => (hP _ hp).2.2.2 hD)]; exact h1⟩
 bl := h.bl.trans (ho.below (fun j hp => by
  have h1 := (hP j hp).2.1
  rcases Nat.lt_or_ge j W.heap.size with h2 | h2
  ·exact absurd (Or.inl (by omega)) h1
  ·exact h2) h.bl.size)
theorem lp_add {Z Z' : Nat → Prop} (h : Lp K Z g w) (hb : Below w.heap.size w w') (hz : ∀ j, Z' j → Z j ∨ w.heap.size ≤ j) : Lp K Z' g w' := by
 obtain ⟨F, s, h1, h2⟩ := h
 refine ⟨F, s, h1.below hb, fun j hj => ⟨fun hn => ?_, Nat.lt_of_lt_of_le (h2 j hj).2 hb.size⟩⟩
 rcases hz j hn with h3 | h3
 ·exact (h2 j hj).1 h3
 ·have := (h2 j hj).2; omega
theorem Tw.grow (h : Tw W b5 n0 Bs g many K G A0 L c0 Am lm cm zs t b14 ms w) (gl : Gl W b5 n0 Bs K G L lm) (hb : Below w.heap.size w w') (hz : ∀ j, j ∈ zs' → j ∈ zs ∨ w.heap.size ≤ j) : Tw W b5 n0 Bs g many K G A0 L c0 Am lm cm zs' t b14 ms w' :=
 h.step gl (Only.of_below hb (Nat.le_refl _) (fun _ => False)) (fun _ hf => hf.elim) (lp_add h.lp hb fun j hj => by
  rcases hj with h1 | h1
  ·exact Or.inl (Or.inl h1)
  ·rcases hz j h1 with h2 | h2
   ·exact Or.inl (Or.inr h2)
   ·exact Or.inr h2)
theorem Tw.one (h : Tw W b5 n0 Bs g many K G A0 L c0 Am lm cm zs t b14 ms w) (gl : Gl W b5 n0 Bs K G L lm) {d : Nat} (ho : Only (fun j => j = d) w w') (hd : d ∈ zs) (hn : n0 ≤ d) (h14 : d ≠ b14) (hm : d ∉ ms) : Tw W b5 n0 Bs g many K G A0 L c0 Am lm cm zs t b14 ms w' :=
 h.step gl ho (fun j e => by
  subst e
  refine ⟨fun hk => ?_, fun hz => ?_, h14, hm⟩
  ·have := (gl.kn _ hk).1; omega
  ·have := gl.zn _ hz; omega) (h.lp.only ho (fun j e => by subst e; exact Or.inr hd))
theorem Tw.called (h : Tw W b5 n0 Bs g many K G A0 L c0 Am lm cm zs t b14 ms w) (gl : Gl W b5 n0 Bs K G L lm) (hl : Lp K (fun j => Zf W b5 G j ∨ j ∈ zs) g w') (ho : Only (fun j => ¬ K j ∧ ¬ (Zf W b5 G j ∨ j ∈ zs)) w w') (h14 : b14 ∈ zs) (hm : ∀ D ∈ ms, D ∈ zs) : Tw W b5 n0 Bs g many K G A0 L c0 Am lm cm zs t b14 ms w' :=
 h.step gl ho (fun j hj => ⟨hj.1, fun hz => hj.2 (Or.inl hz), fun e => hj.2 (Or.inr (e ▸ h14)), fun hD => hj.2 (Or.inr (hm j hD))⟩) hl
theorem Tw.zlt (h : Tw W b5 n0 Bs g many K G A0 L c0 Am lm cm zs t b14 ms w) (gl : Gl W b5 n0 Bs K G L lm) (hz : ∀ j ∈ zs, j < w.heap.size) : ∀ j, (Zf W b5 G j ∨ j ∈ zs) → j < w.heap.size := fun j hj => by
 rcases hj with h1 | h1
 ·have h2 := gl.zn j h1; have h3 := h.pt.lt; have h4 := h.nt; omega
 ·exact hz j h1
def NB (K Z : Nat → Prop) (b15 : Nat) (j : Nat) : Prop := (¬ K j ∧ ¬ Z j) ∨ j = b15
theorem nb_call {Z : Nat → Prop} {b15 : Nat} {X u v : World} (h : Only (NB K Z b15) X u) (k : Only (fun j => ¬ K j ∧ ¬ Z j) u v) : Only (NB K Z b15) X v := h.trans (k.mono fun _ _ hj => Or.inl (Or.inl hj))
theorem nb_sm {Z : Nat → Prop} {b15 D : Nat} {X u : World} (h : Only (NB K Z b15) X u) (hZ : Z D ∧ Z (D + 1)) (hD : D ≠ b15 ∧ D + 1 ≠ b15) (hl : D + 1 < X.heap.size) : Sm D X u :=
 ⟨h.block D (by omega) (fun hn => by rcases hn with h1 | h1; exact h1.2 hZ.1; exact hD.1 h1), h.block (D + 1) hl (fun hn => by rcases hn with h1 | h1; exact h1.2 hZ.2; exact hD.2 h1)⟩
theorem nb_kq {Z : Nat → Prop} {b15 : Nat} {X u : World} (h : Only (NB K Z b15) X u) (hb : ¬ K b15) : Iu.Kq K X u :=
 h.mono fun j _ hj => by rcases hj with h1 | h1; exact h1.1; rw [h1]; exact hb
theorem Tw.less (h : Tw W b5 n0 Bs g many K G A0 L c0 Am lm cm zs t b14 ms w) (hz : ∀ j ∈ zs', j ∈ zs) : Tw W b5 n0 Bs g many K G A0 L c0 Am lm cm zs' t b14 ms w :=
 { h with lp := h.lp.mono fun j _ hj => by rcases hj with h1 | h1; exact Or.inl h1; exact Or.inr (hz j h1) }
theorem Tw.turn (h : Tw W b5 n0 Bs g many K G A0 L c0 Am lm cm zs t b14 ms w) (gl : Gl W b5 n0 Bs K G L lm) {D : Nat} (hD : w.heap[D]? = some (.deferred (some []))) (hn : n0 ≤ D) (hm : D ∉ ms) (hz : D ∈ zs) (hms : ∀ d ∈ ms, d ∈ zs) :
  Tw W b5 n0 Bs g many K G A0 L c0 Am lm cm (w.heap.size :: D :: ms) (t + 1) w.heap.size (D :: ms) (w.alloc (.cells #[.int .i64 ((t : Int) + 1)] 3)) := by
 have hb := bnew w (.cells #[.int .i64 ((t : Int) + 1)] 3)
 have h1 := h.grow gl (zs' := w.heap.size :: D :: ms) hb (fun j hj => by
  rcases List.mem_cons.1 hj with e | e
  ·exact Or.inr (by omega)
  ·rcases List.mem_cons.1 e with e | e
   ·exact Or.inl (e ▸ hz)
   ·exact Or.inl (hms j e))
 refine ⟨h1.lp, h1.p3, h1.p4, h1.p5, h1.p7, h1.rm, h1.cb, h1.rl, ?_, by have := h.pt.lt; have := h.nt; omega, List.nodup_cons.2 ⟨hm, h.nd⟩, fun d hd => ?_, h1.bl⟩
 ·have := Blk.new w #[.int .i64 ((t : Int) + 1)] 3
  exact this
 ·rcases List.mem_cons.1 hd with e | e
  ·subst e
   exact ⟨hn, (hb.block d (Array.getElem?_eq_some_iff.1 hD).1).trans hD⟩
  ·exact h1.md d e
end
end Go.Proofs.YtlmljhnogmfcfaaGreat.Iwb
