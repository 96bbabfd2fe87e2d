/- Proves what the specification's calls return, in the words of a store that is a list of entries. Conditions: at most 1000 entries. -/
import Derived.Test.YtlmljhnogmfcfaaGreatEq
namespace Go.Proofs.YtlmljhnogmfcfaaGreat.Er
open Go.RowKit Ap Mi Nw Ea Eb Ec Ed Ee Ef El
open Ep (St Ok)

section
variable {F G G' : Nat → Prop} {w w' : World} {g : Nat} {s : Sx} {l : List Em} {A : Option Addr} {c : Nat}
theorem bs_p (s : Sx) (x : En) : (putT s x).b = s.b ∧ (putT s x).e = s.e := by
 unfold putT
 by_cases h : putN s x = 0
 ·simp only [if_pos h, and_self]
 ·simp only [if_neg h, and_self]
def Tn (G : Nat → Prop) (w w' : World) : Nat → Prop := fun j => G j ∨ (w.heap.size ≤ j ∧ j < w'.heap.size)
structure Nx (G : Nat → Prop) (w w' : World) (L : List En) (A : Option Addr) (c : Nat) (l : List Em) : Prop where
 r : RL (Tn G w w') w' A c l
 m : l.map Em.e = L
 b : Below w.heap.size w w'
theorem Nx.same (hl : RL G w A c l) (hb : Below w.heap.size w w') : Nx G w w' (l.map Em.e) A c l := ⟨(hl.below hb (Nat.le_refl _)).mono (fun _ h => Or.inl h), rfl, hb⟩
theorem rl_mine {m : List Em} {B : Nat} (hB : w.heap.size ≤ B) (h : Mine B 6 w' A m.length c (emL m)) (he : ∀ x ∈ m, RE (Tn G w w') w' x) : RL (Tn G w w') w' A c m :=
 ⟨Rs.mine h, fun _ ha => Or.inr ⟨Nat.le_trans hB (h.base ha).1, (h.base ha).2.1⟩, he⟩
theorem re_more (hb : Below w.heap.size w w') {x : Em} (h : RE G w x) : RE (Tn G w w') w' x := (h.below hb (Nat.le_refl _)).mono (fun _ h => Or.inl h)
theorem re_own {x : Em} (h : OwE w.heap.size w' x) : RE (Tn G w w') w' x := ⟨h.re.f, h.re.v, h.re.t, fun a ha => Or.inr (Ej.owe_lt h a (Or.inl ha)), fun a ha => Or.inr (Ej.owe_lt h a (Or.inr ha))⟩
def putS (G : Nat → Prop) (w : World) (s s' : Sx) (L : List En) (n : Int) : Ending → World → Prop := fun q w' => ∃ A c l B d m, q = .returned (.tuple #[mV s.b s.e A l.length c, .slice B m.length d, .int .i64 n]) ∧ m.map Em.e = L ∧ RL (Tn G w w') w' B d m ∧ Nx G w w' s'.l A c l
theorem put_s (hl : RL G w A c l) (hm : l.map Em.e = s.l) (hn : l.length ≤ 1000) (hb : bud s.b s.e) (x : Em) (hx : RE G' w x) :
  Calls Tryz.prog 16 #[mV s.b s.e A l.length c, emV x] w (putS G w s (putT s x.e) (putG s x.e) (putN s x.e)) := by
 by_cases h : putN s x.e = 0
 ·refine (Ej.put_yes s.b s.e x hl hx hn hb.1 hb.2.1 hb.2.2.1 hb.2.2.2 h rfl rfl).mono ?_
  rintro q w1 ⟨B, c1, D, d, y, hy, rfl, h1, h2, h3, hbl⟩
  have hrm : (rest Em.e l x.e.k).map Em.e = rest id s.l x.e.k := by rw [rest_map, hm]
  refine ⟨B, c1, _, D, d, _, by rw [h], ?_, rl_mine (Nat.le_refl _) h2 (fun z hz => re_more hbl (hl.e z (rest_mem (List.mem_of_mem_take hz)))), rl_mine (Nat.le_refl _) h1 (fun z hz => ?_), ?_, hbl⟩
  ·unfold putG; rw [if_pos h, List.map_take, hrm]
  ·rcases List.mem_append.1 hz with hz | hz
   ·exact re_more hbl (hl.e z (rest_mem (List.mem_of_mem_drop hz)))
   ·rw [List.mem_singleton.1 hz]; exact re_own h3
  ·unfold putT; rw [if_pos h, List.map_append, List.map_drop, hrm]; simp [hy]
 ·refine (Ej.put_no s.b s.e x hl hx hb.1 hb.2.1 h).mono ?_
  rintro q w1 ⟨rfl, hbl⟩
  refine ⟨A, c, l, none, 0, [], rfl, ?_, RL.nil, ?_⟩
  ·unfold putG; rw [if_neg h]; rfl
  ·have e : putT s x.e = s := by unfold putT; rw [if_neg h]
   rw [e, ← hm]
   exact Nx.same hl hbl
end
end Go.Proofs.YtlmljhnogmfcfaaGreat.Er
