/- Proves what the innermost methods of the program's heap return, at a heap in memory as a row of slots and a map of places. Conditions: as each theorem names them. -/
import Derived.Test.YtpalbccoiejmoaaZa
import Derived.Deep.Cut
import Derived.StillTailTactics
namespace Go.Proofs.Ytpalbccoiejmoaa.Zl
open Go.RowKit Go.Maps Ap Mi Nw Ya Yb Yc Zk Zm Za

/-- How a heap lies: a block g with a row of slots at A and the map B. -/
structure Lo (w : World) (g : Nat) (A : Option Addr) (c B : Nat) (D : DataW Unit) (Q : List Td) : Prop where
  bk : Blk w g #[.slice A Q.length c, .map (some B)] 55
  ob : Own w B D
  mi : Mine 0 2 w A Q.length c (tv Q)
  gb : g ≠ B
  ra : ∀ a, A = some a → a.block ≠ g ∧ a.block ≠ B
section
variable {w w' : World} {g c B : Nat} {A : Option Addr} {D : DataW Unit} {Q : List Td}
theorem Lo.kept (h : Lo w g A c B D Q) {F : Nat → Prop} (ho : Only F w w') (h1 : ¬ F g) (h2 : ¬ F B) (h3 : ∀ a, A = some a → ¬ F a.block) : Lo w' g A c B D Q :=
  ⟨h.bk.only ho h1, h.ob.kept ho h2, h.mi.only ho h3, h.gb, h.ra⟩
theorem Lo.below (h : Lo w g A c B D Q) {N : Nat} (hb : Below N w w') (hN : w.heap.size ≤ N) : Lo w' g A c B D Q :=
  h.kept (Only.of_below hb hN (fun _ => False)) (fun h => h) (fun h => h) (fun _ _ h => h)
theorem Lo.drewN (h : Lo w g A c B D Q) (n : Nat) : Lo (w.drewN n) g A c B D Q := h.kept ((Only.refl (fun _ => False) w).drewN n) (fun h => h) (fun h => h) (fun _ _ h => h)
/-- The cells of a slot. -/
theorem Lo.at_ (h : Lo w g A c B D Q) {i : Nat} (hi : i < Q.length) : ∃ b o, A = some ⟨b, o, none⟩ ∧ b < w.heap.size ∧ w.cell? ⟨b, o + i * 2, none⟩ = some (.int .i64 (Zm.A Q i).1) ∧ w.cell? ⟨b, o + i * 2 + 1, none⟩ = some (.int .u64 (Zm.A Q i).2) := by
  rw [A_get hi]
  exact (Lt.mine h.mi).at_ hi
theorem usable_any {n : Nat} (h : Blk w g #[.slice A n c, .map (some B)] 55) : Calls Try.prog 40 #[.pointer (some ⟨g, 0, none⟩)] w fun e w' => e = .returned (.bool true) ∧ w' = w := by
  obtain ⟨x0, x1, _⟩ := h.two
  have hnq := neq_map
  clear h
  go_enter Try.func40, Try.ntmps40
  go_wp2_with fail
  go_ret
  exact ⟨rfl, rfl⟩
set_option maxRecDepth 100000 in
theorem before_any (h : Lo w g A c B D Q) {i j : Nat} (hi : i < Q.length) (hj : j < Q.length) :
    Calls Try.prog 45 #[.pointer (some ⟨g, 0, none⟩), .int .i64 (i : Int), .int .i64 (j : Int)] w fun e w' => e = .returned (.bool (decide (bf (Zm.A Q i) (Zm.A Q j)))) ∧ Below w.heap.size w w' := by
  obtain ⟨x0, x1, _⟩ := h.bk.two
  have lg := h.bk.lt
  obtain ⟨b, o, rfl, lb, i0, i1⟩ := h.at_ hi
  obtain ⟨b', o', e, _, j0, j1⟩ := h.at_ hj
  injection e with e; injection e with e1 e2
  subst e1; subst e2
  have HLT := Lib.hid (cmpV_lt (Zm.A Q i) (Zm.A Q j))
  have HC : Hid (∀ W, Calls Try.prog 37 #[tA (Zm.A Q i), tA (Zm.A Q j)] W fun e w' => e = .returned (.int .i64 (cmpV (Zm.A Q i) (Zm.A Q j))) ∧ w' = (W.alloc (tO (Zm.A Q i))).alloc (tO (Zm.A Q j))) := fun W => compare_any _ _ W
  have hiI : (i : Int) < (Q.length : Int) := by omega
  have hjI : (j : Int) < (Q.length : Int) := by omega
  obtain ⟨x, hx⟩ : ∃ x, x = Zm.A Q i := ⟨_, rfl⟩
  obtain ⟨y, hy⟩ : ∃ y, y = Zm.A Q j := ⟨_, rfl⟩
  rw [← hx, ← hy] at HC HLT ⊢
  rw [← hx] at i0 i1
  rw [← hy] at j0 j1
  obtain ⟨v, hv⟩ : ∃ v, v = cmpV x y := ⟨_, rfl⟩
  rw [← hv] at HC HLT
  clear h hx hy hv hi hj
  unfold tA at HC
  go_enter Try.func45, Try.ntmps45
  go_wp2_with fail
  go_still_tail 14, (by kernel_rfl)
  change wpList _ _ _ _ _ w.drew
  go_wp2_with (go_at_call 37; refine (HC.out _).mono ?_; rintro e w' ⟨rfl, rfl⟩)
  go_ret
  exact ⟨retB (by rw [decide_eq_decide]; exact HLT.out), (((Below.refl w.heap.size w).drew).alloc (by simp) _).alloc (by simp) _⟩
def notePost (w : World) (g : Nat) (A : Option Addr) (c B : Nat) (D : DataW Unit) (Q : List Td) : Ending → World → Prop := fun e w' => e = .returned (.tuple #[]) ∧ Lo w' g A c B D Q ∧ Only (fun j => j = B) w w'
set_option maxRecDepth 100000 in
theorem note_any (h : Lo w g A c B D Q) {i : Nat} (hi : i < Q.length) (hin : In (Zm.A Q i).1) (hl : Q.length ≤ 2000000) (hsz : Maps.size D ≤ 2000000) :
    Calls Try.prog 46 #[.pointer (some ⟨g, 0, none⟩), .int .i64 (i : Int)] w (notePost w g A c B (D.put (kl (Zm.A Q i).1) (.lit (.int .i64 (i : Int)))) Q) := by
  obtain ⟨x0, x1, _⟩ := h.bk.two
  have lg := h.bk.lt
  obtain ⟨b, o, rfl, lb, i0, i1⟩ := h.at_ hi
  have hiI : (i : Int) < (Q.length : Int) := by omega
  have HD := Lib.hid (h.drewN 1)
  have HI : Hid (In (i : Int)) := ⟨by omega, by omega⟩
  have HN := Lib.hid hin
  have HS := Lib.hid hsz
  obtain ⟨n, hn⟩ : ∃ n, n = (Zm.A Q i).1 := ⟨_, rfl⟩
  rw [← hn] at i0 HN ⊢
  unfold notePost
  obtain ⟨D', hD⟩ : ∃ D', D' = D.put (kl n) (.lit (.int .i64 (i : Int))) := ⟨_, rfl⟩
  have HDE := Lib.hid hD
  rw [← hD]
  clear h hn hi hin hl hsz hD i1
  go_enter Try.func46, Try.ntmps46
  go_still_tail 13, (by kernel_rfl)
  change wpList _ _ _ _ _ w.drew
  go_wp2_with (at_mapUpdate; refine to_store _ rfl _ _ _ rfl B D rfl HD.out.ob HS.out n HN.out rfl (i : Int) HI.out rfl ?_; rw [← HDE.out]; intro w2 hw2 ho2; have HO2 := Lib.hid ho2; have HW2 := Lib.hid hw2; clear ho2 hw2)
  go_end0
  exact ⟨rfl, ⟨HD.out.bk.only HO2.out HD.out.gb, HW2.out, HD.out.mi.only HO2.out (fun a ha => (HD.out.ra a ha).2), HD.out.gb, HD.out.ra⟩, ((Only.refl (fun _ => False) w).drew.mono (fun _ _ h => h.elim)).trans (HO2.out.mono fun _ _ e => Or.inl e)⟩
end
end Go.Proofs.Ytpalbccoiejmoaa.Zl
