/- Proves plain facts about accounts: what is used after entries are added, taken away and changed, and when. No program, no condition. -/
import Derived.Test.YtocfinhbocjbgaaNw
namespace Go.Proofs.Ytocfinhbocjbgaa.Ja
open Go.RowKit Ap Mi Nw

/-- An account: its budgets, and what is used. -/
structure Ac where
  b : Int
  e : Int
  x : Int
  n : Int
/-- What a cost is. -/
def isC (c : Int) : Prop := 65 ≤ c ∧ c ≤ 67000
instance (c : Int) : Decidable (isC c) := inferInstanceAs (Decidable (_ ∧ _))
/-- Which budgets are allowed. -/
def bud (b e : Int) : Prop := 1 ≤ b ∧ b ≤ 1099511627776 ∧ 1 ≤ e ∧ e ≤ 1048576
instance (b e : Int) : Decidable (bud b e) := inferInstanceAs (Decidable (_ ∧ _))
/-- What is used fits together. -/
structure Ok (s : Ac) : Prop where
  bb : bud s.b s.e
  n0 : 0 ≤ s.n
  n1 : s.n ≤ 2097152
  lo : s.n * 65 ≤ s.x
  hi : s.x ≤ s.n * 67000
/-- Whether one with this cost may be taken away. -/
def can (s : Ac) (c : Int) : Prop := 1 ≤ s.n ∧ (s.n - 1) * 65 ≤ s.x - c ∧ s.x - c ≤ (s.n - 1) * 67000
instance (s : Ac) (c : Int) : Decidable (can s c) := inferInstanceAs (Decidable (_ ∧ _))
def addN (s : Ac) (c : Int) : Int := if ¬ isC c then 3 else if 2097152 ≤ s.n then 7 else 0
def addT (s : Ac) (c : Int) : Ac := if isC c ∧ s.n < 2097152 then { s with x := s.x + c, n := s.n + 1 } else s
def remN (s : Ac) (c : Int) : Int := if ¬ isC c then 3 else if can s c then 0 else 9
def remT (s : Ac) (c : Int) : Ac := if isC c ∧ can s c then { s with x := s.x - c, n := s.n - 1 } else s
def chgN (s : Ac) (c d : Int) : Int := if ¬ (isC c ∧ isC d) then 3 else if can s c then 0 else 9
def chgT (s : Ac) (c d : Int) : Ac := if (isC c ∧ isC d) ∧ can s c then { s with x := s.x - c + d } else s
def fitB (s : Ac) (c : Int) : Bool := decide (isC c ∧ c ≤ s.b)
def ovB (s : Ac) : Int := max 0 (s.x - s.b)
def ovE (s : Ac) : Int := max 0 (s.n - s.e)
theorem Ok.add {s : Ac} (h : Ok s) (c : Int) : Ok (addT s c) := by
  unfold addT
  split
  · rename_i hc
    obtain ⟨h1, h2, h3, h4, h5⟩ := h
    obtain ⟨⟨c1, c2⟩, c3⟩ := hc
    exact ⟨h1, by show 0 ≤ s.n + 1; omega, by show s.n + 1 ≤ _; omega, by show (s.n + 1) * 65 ≤ s.x + c; omega, by show s.x + c ≤ (s.n + 1) * 67000; omega⟩
  · exact h
theorem Ok.rem {s : Ac} (h : Ok s) (c : Int) : Ok (remT s c) := by
  unfold remT
  split
  · rename_i hc
    obtain ⟨h1, h2, h3, h4, h5⟩ := h
    obtain ⟨_, c1, c2, c3⟩ := hc
    exact ⟨h1, by show 0 ≤ s.n - 1; omega, by show s.n - 1 ≤ _; omega, c2, c3⟩
  · exact h
theorem Ok.chg {s : Ac} (h : Ok s) (c d : Int) : Ok (chgT s c d) := by
  unfold chgT
  split
  · rename_i hc
    obtain ⟨h1, h2, h3, h4, h5⟩ := h
    obtain ⟨⟨_, d1, d2⟩, c1, c2, c3⟩ := hc
    exact ⟨h1, h2, h3, by show s.n * 65 ≤ s.x - c + d; omega, by show s.x - c + d ≤ s.n * 67000; omega⟩
  · exact h
theorem ok_new {b e : Int} (h : bud b e) : Ok ⟨b, e, 0, 0⟩ := ⟨h, by show (0 : Int) ≤ 0; omega, by show (0 : Int) ≤ 2097152; omega, by show (0 : Int) * 65 ≤ 0; omega, by show (0 : Int) ≤ 0 * 67000; omega⟩
/-- Change is Remove and then Add. -/
theorem chg_two {s : Ac} (h : Ok s) {c d : Int} (hc : isC c) (hd : isC d) (hk : can s c) : chgT s c d = addT (remT s c) d ∧ addN (remT s c) d = 0 := by
  have e1 : remT s c = { s with x := s.x - c, n := s.n - 1 } := if_pos ⟨hc, hk⟩
  have hn : s.n - 1 < 2097152 := by have := h.n1; omega
  rw [e1]
  refine ⟨?_, ?_⟩
  · unfold chgT addT
    rw [if_pos ⟨⟨hc, hd⟩, hk⟩, if_pos ⟨hd, hn⟩]
    simp
  · unfold addN
    rw [if_neg (by simpa using hd), if_neg (by show ¬ (2097152 : Int) ≤ s.n - 1; omega)]
/-- The cells of an account. -/
def cells (s : Ac) : Array Value := #[.int .i64 s.b, .int .i64 s.e, .int .i64 s.x, .int .i64 s.n]
def sv (s : Ac) : Value := .agg (cells s)
/-- Four cells are written. -/
def put4 (w : World) (r : Nat) (a b c d : Value) : World := (((w.setCell ⟨r, 0, none⟩ a).setCell ⟨r, 1, none⟩ b).setCell ⟨r, 2, none⟩ c).setCell ⟨r, 3, none⟩ d
theorem put4_blk {w : World} {r : Nat} {p q x y : Value} {t : TypeId} (h : Blk w r #[p, q, x, y] t) (a b c d : Value) : Blk (put4 w r a b c d) r #[a, b, c, d] t :=
  (((h.set 0 a).set 1 b).set 2 c).set 3 d
theorem put4_only (w : World) (r : Nat) (a b c d : Value) : Only (fun j => j = r) w (put4 w r a b c d) :=
  ((((Only.refl (fun j => j = r) w).put (ad := ⟨r, 0, none⟩) rfl a).put (ad := ⟨r, 1, none⟩) rfl b).put (ad := ⟨r, 2, none⟩) rfl c).put (ad := ⟨r, 3, none⟩) rfl d
end Go.Proofs.Ytocfinhbocjbgaa.Ja
