/- Proves what the law's step leaves. Conditions: as each theorem names them. -/
import Derived.Test.YtlmljhnogmfcfaaGreatEr
namespace Go.Proofs.YtlmljhnogmfcfaaGreat.Es
open Go.RowKit Ap Mi Nw Rg Ea Eb Ec Ed Ee El Ep Er
open Ef (mV mA put3 put3_blk put3_only)
open Eg (zS)

section
variable {F G R F' G2 P Q : Nat → Prop} {w v0 v2 v3 v9 : World} {g C : Nat} {s s' : Sx} {A A2 : Option Addr} {c c2 : Nat} {l l2 : List Em}
structure Co (F G : Nat → Prop) (w : World) (g : Nat) (s : Sx) (A : Option Addr) (c : Nat) (l : List Em) : Prop where
 st : St F w g s
 r : RL G w A c l
 m : l.map Em.e = s.l
 d : ∀ j, F j → ¬ G j
 f : ∀ j, F j → j < w.heap.size
 t : ∀ j, G j → j < w.heap.size
 n : l.length ≤ 1000
def actA (n : Int) (x : Em) (t : Int) : Array Value := #[.int .i64 n, .string x.e.k, .slice x.A x.e.v.length x.a, .slice x.B x.e.t.length x.b, .int .u64 x.e.d, .int .u64 x.e.n, .int .u64 x.e.s, .int .u64 t]
structure B3 (v : World) (C : Nat) (cs as' : Array Value) : Prop where
 k : Blk v C cs 32
 a : Blk v (C + 1) as' 44
 r : Blk v (C + 1 + 1) zS 32
theorem B3.below {v u : World} {cs as' : Array Value} (h : B3 v C cs as') (hb : Below v.heap.size v u) : B3 u C cs as' := ⟨h.k.below hb h.k.lt, h.a.below hb h.a.lt, h.r.below hb h.r.lt⟩
theorem B3.only {v u : World} {cs as' : Array Value} (h : B3 v C cs as') (ho : Only Q v u) (hn : ∀ j, Q j → j < C ∨ C + 3 ≤ j) : B3 u C cs as' := ⟨h.k.only ho (fun hq => by have := hn _ hq; omega), h.a.only ho (fun hq => by have := hn _ hq; omega), h.r.only ho (fun hq => by have := hn _ hq; omega)⟩
theorem eight {w : World} {g : Nat} {a b c d e f h i : Value} {t : TypeId} (k : Blk w g #[a, b, c, d, e, f, h, i] t) : w.cell? ⟨g, 0, none⟩ = some a ∧ w.cell? ⟨g, 1, none⟩ = some b ∧ w.cell? ⟨g, 2, none⟩ = some c ∧ w.cell? ⟨g, 3, none⟩ = some d ∧ w.cell? ⟨g, 4, none⟩ = some e ∧ w.cell? ⟨g, 5, none⟩ = some f ∧ w.cell? ⟨g, 6, none⟩ = some h ∧ w.cell? ⟨g, 7, none⟩ = some i := ⟨k.cell 0, k.cell 1, k.cell 2, k.cell 3, k.cell 4, k.cell 5, k.cell 6, k.cell 7⟩
theorem B3.cells {v : World} {b e : Int} {n : Nat} {k : Int} {x : Em} {t : Int} (h : B3 v C #[.int .i64 b, .int .i64 e, .slice A n c] (actA k x t)) :
  (v.cell? ⟨C, 0, none⟩ = some (.int .i64 b) ∧ v.cell? ⟨C, 1, none⟩ = some (.int .i64 e) ∧ v.cell? ⟨C, 2, none⟩ = some (.slice A n c)) ∧ (v.cell? ⟨C + 1, 0, none⟩ = some (.int .i64 k) ∧ v.cell? ⟨C + 1, 1, none⟩ = some (.string x.e.k) ∧ v.cell? ⟨C + 1, 2, none⟩ = some (.slice x.A x.e.v.length x.a) ∧ v.cell? ⟨C + 1, 3, none⟩ = some (.slice x.B x.e.t.length x.b) ∧ v.cell? ⟨C + 1, 4, none⟩ = some (.int .u64 x.e.d) ∧ v.cell? ⟨C + 1, 5, none⟩ = some (.int .u64 x.e.n) ∧ v.cell? ⟨C + 1, 6, none⟩ = some (.int .u64 x.e.s) ∧ v.cell? ⟨C + 1, 7, none⟩ = some (.int .u64 t)) ∧ C < v.heap.size ∧ C + 1 < v.heap.size ∧ C + 1 + 1 < v.heap.size := by
 obtain ⟨h0, h1, h2, _⟩ := h.k.three
 have ha := h.a
 unfold actA at ha
 exact ⟨⟨h0, h1, h2⟩, eight ha, h.k.lt, h.a.lt, h.r.lt⟩
end
end Go.Proofs.YtlmljhnogmfcfaaGreat.Es
