/- Proves what the law's step leaves at any call, and what the law's few returns; words for a list of calls in memory. Conditions: as each theorem names them. -/
import Derived.Test.YtlmljhnogmfcfaaGreatEs
namespace Go.Proofs.YtlmljhnogmfcfaaGreat.Et
open Go.RowKit Ap Mi Nw Rg Ea Eb Ec Ed Ee El Ep Er Es
open Ef (mV mA)

section
variable {F G R : Nat → Prop} {w w' : World} {g : Nat} {s : Sx} {A : Option Addr} {c : Nat} {l : List Em}
structure Cl where
 n : Int
 x : Em
 t : Int
def clC (a : Cl) : List Value := [.int .i64 a.n, .string a.x.e.k, .slice a.x.A a.x.e.v.length a.x.a, .slice a.x.B a.x.e.t.length a.x.b, .int .u64 a.x.e.d, .int .u64 a.x.e.n, .int .u64 a.x.e.s, .int .u64 a.t]
def clL (l : List Cl) : List Value := l.flatMap clC
theorem rs_only {sz n : Nat} {xs : List Value} (h : Rs w sz A n c xs) (ho : Only F w w') (hn : xs ≠ [] → ∀ a, A = some a → ¬ F a.block) : Rs w' sz A n c xs := by
 cases xs with
 | nil => exact ⟨Rl.nil _ _, h.len, h.le, h.max, h.non⟩
 | cons y r => exact h.only ho (hn (by simp))
structure RX (R : Nat → Prop) (w : World) (x : Em) : Prop where
 r : R0 w x
 v : x.e.v ≠ [] → ∀ a, x.A = some a → R a.block
 t : x.e.t ≠ [] → ∀ a, x.B = some a → R a.block
theorem RX.only {x : Em} (h : RX R w x) (ho : Only F w w') (hn : ∀ j, F j → ¬ R j) : RX R w' x :=
 ⟨⟨rs_only h.r.v ho (fun he a ha hf => hn _ hf (h.v (fun e => he (by rw [e]; rfl)) a ha)), rs_only h.r.t ho (fun he a ha hf => hn _ hf (h.t (fun e => he (by rw [e]; rfl)) a ha)), h.r.k, h.r.e, h.r.d, h.r.n, h.r.s⟩, h.v, h.t⟩
structure RA (R : Nat → Prop) (w : World) (A : Option Addr) (c : Nat) (l : List Cl) : Prop where
 r : Rs w 8 A l.length c (clL l)
 g : l ≠ [] → ∀ a, A = some a → R a.block
 e : ∀ a ∈ l, RX R w a.x
 t : ∀ a ∈ l, 0 ≤ a.t ∧ a.t < 18446744073709551616
theorem RA.only {l : List Cl} (h : RA R w A c l) (ho : Only F w w') (hn : ∀ j, F j → ¬ R j) : RA R w' A c l :=
 ⟨rs_only h.r ho (fun he a ha hf => hn _ hf (h.g (fun e => he (by rw [e]; rfl)) a ha)), h.g, fun a ha => (h.e a ha).only ho hn, h.t⟩
theorem RA.below {l : List Cl} (h : RA R w A c l) (hb : Below w.heap.size w w') : RA R w' A c l := h.only (Only.of_below hb (Nat.le_refl _) (fun _ => False)) (fun _ hf => hf.elim)
end
end Go.Proofs.YtlmljhnogmfcfaaGreat.Et
