/- Proves what the specification's calls return, in the words of a store that is a list of entries. Conditions: at most 1000 entries. -/
import Derived.Test.YtlmljhnogmfcfaaGreatEq
namespace Go.Proofs.YtlmljhnogmfcfaaGreat.Er
open Go.RowKit Ap Mi Nw Ea Eb Ec Ed Ee Ef El
open Ep (St Ok)

section
variable {F G G' : Nat → Prop} {w w' : World} {g : Nat} {s : Sx} {l : List Em} {A : Option Addr} {c : Nat}
theorem fnd_s (hm : l.map Em.e = s.l) (k : ByteArray) : fnd Em.e l k = fnd id s.l k := by rw [fnd_map, hm]
theorem lookR_s (hm : l.map Em.e = s.l) (k : ByteArray) : lookR l k = lookN s k := by
 unfold lookR lookN
 rw [fnd_s hm]
 by_cases h : keyOk k
 ·rw [if_pos h, if_neg (fun hn => hn h)]; cases fnd id s.l k <;> rfl
 ·rw [if_neg h, if_pos h]
theorem look_s (hm : l.map Em.e = s.l) (k : ByteArray) : (lookN s k ≠ 0 ∧ lookE s k = zeroE ∧ remT s k = s ∧ useT s k = s ∧ ∀ d, touT s k d = s) ∨ (∃ i, ∃ hi : i < l.length, lookN s k = 0 ∧ keyOk k ∧ fnd Em.e l k = some i ∧ lookE s k = (l[i]).e ∧ (remT s k).l = (wo l i).map Em.e ∧ (useT s k).l = (wo l i ++ [l[i]]).map Em.e ∧ ∀ d, (touT s k d).l = (wo l i ++ [Eh.withD l[i] d]).map Em.e) := by
 have hlr := lookR_s hm k
 by_cases h : lookN s k = 0
 ·right
  rcases look_cases l k with ⟨h1, _⟩ | ⟨h1, _⟩ | ⟨i, h1, h2, h3, h4⟩
  ·rw [hlr] at h1; omega
  ·rw [hlr] at h1; omega
  ·have hi := fnd_lt Em.e h4
   have hf : fnd id s.l k = some i := by rw [← fnd_s hm]; exact h4
   have hle : lookE s k = l[i].e := by
    unfold lookE
    rw [if_pos h, hf, ← hm]
    simp [List.getD, hi]
   refine ⟨i, hi, h, h3, h4, hle, ?_, ?_, fun d => ?_⟩
   ·unfold remT; rw [if_pos h, hf, wo_map, hm]; rfl
   ·unfold useT; rw [if_pos h, hf, List.map_append, wo_map, hm, hle]; rfl
   ·unfold touT; rw [if_pos h, hf, List.map_append, wo_map, hm, hle]; rfl
 ·left
  refine ⟨h, ?_, ?_, ?_, fun d => ?_⟩
  ·unfold lookE; rw [if_neg h]
  ·unfold remT; rw [if_neg h]
  ·unfold useT; rw [if_neg h]
  ·unfold touT; rw [if_neg h]
theorem bs_s (s : Sx) (k : ByteArray) (d : Int) : (remT s k).b = s.b ∧ (remT s k).e = s.e ∧ (useT s k).b = s.b ∧ (useT s k).e = s.e ∧ (touT s k d).b = s.b ∧ (touT s k d).e = s.e := by
 unfold remT useT touT
 by_cases h : lookN s k = 0
 ·simp only [if_pos h, and_self]
 ·simp only [if_neg h, and_self]
theorem bs_p (s : Sx) (x : En) : (putT s x).b = s.b ∧ (putT s x).e = s.e := by
 unfold putT
 by_cases h : putN s x = 0
 ·simp only [if_pos h, and_self]
 ·simp only [if_neg h, and_self]
def Tn (G : Nat → Prop) (w w' : World) : Nat → Prop := fun j => G j ∨ (w.heap.size ≤ j ∧ j < w'.heap.size)
structure Nx (G : Nat → Prop) (w w' : World) (L : List En) (A : Option Addr) (c : Nat) (l : List Em) : Prop where
 r : RL (Tn G w w') w' A c l
 m : l.map Em.e = L
 b : Below w.heap.size w w'
theorem Nx.same (hl : RL G w A c l) (hb : Below w.heap.size w w') : Nx G w w' (l.map Em.e) A c l := ⟨(hl.below hb (Nat.le_refl _)).mono (fun _ h => Or.inl h), rfl, hb⟩
theorem rl_mine {m : List Em} {B : Nat} (hB : w.heap.size ≤ B) (h : Mine B 6 w' A m.length c (emL m)) (he : ∀ x ∈ m, RE (Tn G w w') w' x) : RL (Tn G w w') w' A c m :=
 ⟨Rs.mine h, fun _ ha => Or.inr ⟨Nat.le_trans hB (h.base ha).1, (h.base ha).2.1⟩, he⟩
theorem re_more (hb : Below w.heap.size w w') {x : Em} (h : RE G w x) : RE (Tn G w w') w' x := (h.below hb (Nat.le_refl _)).mono (fun _ h => Or.inl h)
theorem re_own {x : Em} (h : OwE w.heap.size w' x) : RE (Tn G w w') w' x := ⟨h.re.f, h.re.v, h.re.t, fun a ha => Or.inr (Ej.owe_lt h a (Or.inl ha)), fun a ha => Or.inr (Ej.owe_lt h a (Or.inr ha))⟩
theorem re_d {x : Em} (h : RE G w x) (d : Int) (hd : 0 ≤ d ∧ d < 18446744073709551616) : RE G w (Eh.withD x d) := ⟨⟨h.f.k, h.f.v, h.f.t, h.f.e, hd, h.f.n, h.f.s⟩, h.v, h.t, h.gv, h.gt⟩
def gotS (G : Nat → Prop) (w : World) (s s' : Sx) (e : En) (n : Int) : Ending → World → Prop := fun q w' => ∃ A c l y, q = .returned (.tuple #[mV s.b s.e A l.length c, emV y, .int .i64 n]) ∧ y.e = e ∧ RE (Tn G w w') w' y ∧ Nx G w w' s'.l A c l
theorem find_s (hl : RL G w A c l) (hm : l.map Em.e = s.l) (hn : l.length ≤ 1000) (k : ByteArray) :
  Calls Tryz.prog 51 #[mV s.b s.e A l.length c, .string k] w (fun q w' => ∃ y, q = .returned (.tuple #[emV y, .int .i64 (lookN s k)]) ∧ y.e = lookE s k ∧ RE (Tn G w w') w' y ∧ Below w.heap.size w w') := by
 refine (find_m s.b s.e k hl hn).mono ?_
 rintro q w1 ⟨rfl, hb⟩
 refine ⟨gotE l k, by rw [lookR_s hm], ?_, ?_, hb⟩
 ·unfold gotE
  rw [lookR_s hm]
  rcases look_s hm k with ⟨h1, h2, _⟩ | ⟨i, hi, h1, hk, hf, he, _⟩
  ·rw [if_neg h1, h2]; rfl
  ·rw [if_pos h1, he]
   unfold lookI
   rw [if_pos hk, hf]
   simp [List.getD, hi]
 ·refine re_more hb ?_
  unfold gotE
  rw [lookR_s hm]
  rcases look_s hm k with ⟨h1, h2, _⟩ | ⟨i, hi, h1, hk, hf, he, _⟩
  ·rw [if_neg h1]; exact RE.zero
  ·rw [if_pos h1]
   unfold lookI
   rw [if_pos hk, hf]
   simp only [Int.toNat_natCast, List.getD, List.getElem?_eq_getElem hi, Option.getD_some]
   exact hl.e _ (List.getElem_mem hi)
theorem rem_s (hl : RL G w A c l) (hm : l.map Em.e = s.l) (hn : l.length ≤ 1000) (k : ByteArray) :
  Calls Tryz.prog 54 #[mV s.b s.e A l.length c, .string k] w (gotS G w s (remT s k) (lookE s k) (lookN s k)) := by
 rcases look_s hm k with ⟨h1, h2, h3, _⟩ | ⟨i, hi, h1, hk, hf, he, hr, _⟩
 ·refine (Eg.rem_no s.b s.e k hl hn (by rw [lookR_s hm]; exact h1)).mono ?_
  rintro q w1 ⟨rfl, hb⟩
  refine ⟨A, c, l, zeroM, by rw [lookR_s hm], by rw [h2]; rfl, RE.zero, ?_⟩
  rw [h3, ← hm]
  exact Nx.same hl hb
 ·refine (Eg.rem_yes s.b s.e k hl hn hk hf hi rfl).mono ?_
  rintro q w1 ⟨B, d, rfl, hmi, hb⟩
  refine ⟨B, d, wo l i, l[i], by rw [h1], he.symm, re_more hb (hl.e _ (List.getElem_mem hi)), ?_⟩
  rw [hr]
  exact ⟨rl_mine (Nat.le_refl _) hmi (fun x hx => re_more hb (hl.e x (wo_mem hx))), rfl, hb⟩
theorem use_s (hl : RL G w A c l) (hm : l.map Em.e = s.l) (hn : l.length ≤ 1000) (k : ByteArray) :
  Calls Tryz.prog 52 #[mV s.b s.e A l.length c, .string k] w (gotS G w s (useT s k) (lookE s k) (lookN s k)) := by
 rcases look_s hm k with ⟨h1, h2, _, h3, _⟩ | ⟨i, hi, h1, hk, hf, he, _, hr, _⟩
 ·refine (Eh.use_no s.b s.e k hl hn (by rw [lookR_s hm]; exact h1)).mono ?_
  rintro q w1 ⟨rfl, hb⟩
  refine ⟨A, c, l, zeroM, by rw [lookR_s hm], by rw [h2]; rfl, RE.zero, ?_⟩
  rw [h3, ← hm]
  exact Nx.same hl hb
 ·refine (Eh.use_yes s.b s.e k hl hn hk hf hi rfl).mono ?_
  rintro q w1 ⟨B, d, rfl, hmi, hb⟩
  refine ⟨B, d, wo l i ++ [l[i]], l[i], by rw [h1], he.symm, re_more hb (hl.e _ (List.getElem_mem hi)), ?_⟩
  rw [hr]
  refine ⟨rl_mine (Nat.le_refl _) hmi (fun x hx => ?_), rfl, hb⟩
  rcases List.mem_append.1 hx with hx | hx
  ·exact re_more hb (hl.e x (wo_mem hx))
  ·rw [List.mem_singleton.1 hx]; exact re_more hb (hl.e _ (List.getElem_mem hi))
def touS (G : Nat → Prop) (w : World) (s s' : Sx) (n : Int) : Ending → World → Prop := fun q w' => ∃ A c l, q = .returned (.tuple #[mV s.b s.e A l.length c, .int .i64 n]) ∧ Nx G w w' s'.l A c l
theorem tou_s (hl : RL G w A c l) (hm : l.map Em.e = s.l) (hn : l.length ≤ 1000) (k : ByteArray) (d : Int) (hd : 0 ≤ d ∧ d < 18446744073709551616) :
  Calls Tryz.prog 53 #[mV s.b s.e A l.length c, .string k, .int .u64 d] w (touS G w s (touT s k d) (lookN s k)) := by
 rcases look_s hm k with ⟨h1, h2, _, _, h3⟩ | ⟨i, hi, h1, hk, hf, he, _, _, hr⟩
 ·refine (Eh.tou_no s.b s.e k d hl hn (by rw [lookR_s hm]; exact h1)).mono ?_
  rintro q w1 ⟨rfl, hb⟩
  refine ⟨A, c, l, by rw [lookR_s hm], ?_⟩
  rw [h3, ← hm]
  exact Nx.same hl hb
 ·refine (Eh.tou_yes s.b s.e k d hl hn hk hf hi rfl).mono ?_
  rintro q w1 ⟨B, c1, rfl, hmi, hb⟩
  refine ⟨B, c1, wo l i ++ [Eh.withD l[i] d], by rw [h1], ?_⟩
  rw [hr]
  refine ⟨rl_mine (Nat.le_refl _) hmi (fun x hx => ?_), rfl, hb⟩
  rcases List.mem_append.1 hx with hx | hx
  ·exact re_more hb (hl.e x (wo_mem hx))
  ·rw [List.mem_singleton.1 hx]; exact re_d (re_more hb (hl.e _ (List.getElem_mem hi))) d hd
def putS (G : Nat → Prop) (w : World) (s s' : Sx) (L : List En) (n : Int) : Ending → World → Prop := fun q w' => ∃ A c l B d m, q = .returned (.tuple #[mV s.b s.e A l.length c, .slice B m.length d, .int .i64 n]) ∧ m.map Em.e = L ∧ RL (Tn G w w') w' B d m ∧ Nx G w w' s'.l A c l
theorem put_s (hl : RL G w A c l) (hm : l.map Em.e = s.l) (hn : l.length ≤ 1000) (hb : bud s.b s.e) (x : Em) (hx : RE G' w x) :
  Calls Tryz.prog 16 #[mV s.b s.e A l.length c, emV x] w (putS G w s (putT s x.e) (putG s x.e) (putN s x.e)) := by
 by_cases h : putN s x.e = 0
 ·refine (Ej.put_yes s.b s.e x hl hx hn hb.1 hb.2.1 hb.2.2.1 hb.2.2.2 h rfl rfl).mono ?_
  rintro q w1 ⟨B, c1, D, d, y, hy, rfl, h1, h2, h3, hbl⟩
  have hrm : (rest Em.e l x.e.k).map Em.e = rest id s.l x.e.k := by rw [rest_map, hm]
  refine ⟨B, c1, _, D, d, _, by rw [h], ?_, rl_mine (Nat.le_refl _) h2 (fun z hz => re_more hbl (hl.e z (rest_mem (List.mem_of_mem_take hz)))), rl_mine (Nat.le_refl _) h1 (fun z hz => ?_), ?_, hbl⟩
  ·unfold putG; rw [if_pos h, List.map_take, hrm]
  ·rcases List.mem_append.1 hz with hz | hz
   ·exact re_more hbl (hl.e z (rest_mem (List.mem_of_mem_drop hz)))
   ·rw [List.mem_singleton.1 hz]; exact re_own h3
  ·unfold putT; rw [if_pos h, List.map_append, List.map_drop, hrm]; simp [hy]
 ·refine (Ej.put_no s.b s.e x hl hx hb.1 hb.2.1 h).mono ?_
  rintro q w1 ⟨rfl, hbl⟩
  refine ⟨A, c, l, none, 0, [], rfl, ?_, RL.nil, ?_⟩
  ·unfold putG; rw [if_neg h]; rfl
  ·have e : putT s x.e = s := by unfold putT; rw [if_neg h]
   rw [e, ← hm]
   exact Nx.same hl hbl
def expS' (G : Nat → Prop) (w : World) (s s' : Sx) (L : List En) : Ending → World → Prop := fun q w' => ∃ A c l B d m, q = .returned (.tuple #[mV s.b s.e A l.length c, .slice B m.length d]) ∧ m.map Em.e = L ∧ RL (Tn G w w') w' B d m ∧ Nx G w w' s'.l A c l
theorem exp_s (hl : RL G w A c l) (hm : l.map Em.e = s.l) (hn : l.length ≤ 1000) (now : Int) :
  Calls Tryz.prog 55 #[mV s.b s.e A l.length c, .int .u64 now] w (expS' G w s (expT s now) (expG id now s.l)) := by
 refine (Ek.exp_any s.b s.e now hl hn).mono ?_
 rintro q w1 ⟨B, c1, D, d, rfl, h1, h2, hb⟩
 refine ⟨B, c1, _, D, d, _, rfl, by rw [expG_map, hm], rl_mine (Nat.le_refl _) h2 (fun z hz => re_more hb (hl.e z (expG_mem hz))), rl_mine (Nat.le_refl _) h1 (fun z hz => re_more hb (hl.e z (expS_mem hz))), by rw [expS_map, hm]; rfl, hb⟩
end
end Go.Proofs.YtlmljhnogmfcfaaGreat.Er
