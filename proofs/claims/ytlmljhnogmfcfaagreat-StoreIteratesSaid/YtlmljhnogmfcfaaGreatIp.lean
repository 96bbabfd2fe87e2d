/- Proves words for a store as a law's walk sees it: one block whose own blocks lie in F, and what a call leaves that changes it or hands entries out. Conditions: as each theorem names them. -/
import Derived.Test.YtlmljhnogmfcfaaGreatIa
import Derived.Test.YtlmljhnogmfcfaaGreatIb
import Derived.Test.YtlmljhnogmfcfaaGreatNfw
import Derived.Test.YtlmljhnogmfcfaaGreatPhw
import Derived.Test.YtlmljhnogmfcfaaGreatRg
namespace Go.Proofs.YtlmljhnogmfcfaaGreat.Ic
open Go.RowKit Ap Mi Nw Ea Eb Ec Ed Ee El Ia

structure Ptr where
 ga : Nat
 gt : Nat
 gr : Nat
 gh : Nat
 gc : Nat
 A : Option Addr
 c : Nat
structure Ct where
 E : List Em
 m : Nat
 a : Nm.St
 sd : Int
 t : List (Tm.Cell Ta.Key)
 r : List Int
 h : List Ya.Td
 k : Ja.Ac
def ptV (g : Nat) : Value := .pointer (some ⟨g, 0, none⟩)
def stC (q : Ptr) (n : Nat) : Array Value := #[ptV q.ga, .slice q.A n q.c, ptV q.gt, ptV q.gr, ptV q.gh, ptV q.gc]
structure Lo (p : Nat → Nat) (w : World) (g : Nat) (q : Ptr) (c : Ct) : Prop where
 bk : Blk w g (stC q c.E.length) 69
 pg : p g = 1
 ar : Na.Are (fun j => p j = 2) w q.ga c.m 1 c.a
 tb : Pb.Pt (fun j => p j = 3) w q.gt c.sd c.t
 rc : Ue.Rc (fun j => p j = 4) w q.gr c.r
 hp : Ye.Hp (fun j => p j = 5) w q.gh c.h
 ac : Je.Ah (fun j => p j = 6) w q.gc c.k
 en : Mine 0 6 w q.A c.E.length q.c (emL c.E)
 pe : ∀ b, q.A = some b → p b.block = 7
 re : ∀ x ∈ c.E, RE (fun j => p j = 8 ∧ j < w.heap.size) w x
def col (p : Nat → Nat) (k N j : Nat) : Nat := if j < N then p j else k
theorem col_lt {p : Nat → Nat} {k N j : Nat} (h : j < N) : col p k N j = p j := if_pos h
theorem col_ge {p : Nat → Nat} {k N j : Nat} (h : N ≤ j) : col p k N j = k := if_neg (by omega)
structure Step (p : Nat → Nat) (w : World) (p' : Nat → Nat) (w' : World) : Prop where
 eq : ∀ j, j < w.heap.size → p' j = p j
 on : Only (fun j => p j ≠ 0 ∧ p j ≠ 8) w w'
section
variable {p p' p1 p2 : Nat → Nat} {w w' w1 w2 : World} {g : Nat} {q : Ptr} {c : Ct} {F : Nat → Prop}
theorem Step.refl (p : Nat → Nat) (w : World) : Step p w p w := ⟨fun _ _ => rfl, Only.refl _ _⟩
theorem Step.trans (h : Step p w p1 w1) (k : Step p1 w1 p2 w2) : Step p w p2 w2 := by
 refine ⟨fun j hj => ?_, h.on.trans (k.on.mono fun j _ hj => ?_)⟩
 ·rw [k.eq j (Nat.lt_of_lt_of_le hj h.on.size), h.eq j hj]
 ·rcases Nat.lt_or_ge j w.heap.size with h1 | h1
  ·exact Or.inl (by show p j ≠ 0 ∧ p j ≠ 8; rw [← h.eq j h1]; exact hj)
  ·exact Or.inr h1
theorem Step.below (hb : Below w.heap.size w w') (k : Nat) : Step p w (col p k w.heap.size) w' := ⟨fun _ hj => col_lt hj, Only.of_below hb (Nat.le_refl _) _⟩
theorem Step.part {k n : Nat} (hk : k ≠ 0 ∧ k ≠ 8) (ho : Only (fun j => p j = k) w w') : Step p w (col p n w.heap.size) w' := ⟨fun _ hj => col_lt hj, ho.mono fun _ _ e => by rw [e]; exact hk⟩
theorem Step.same {k : Nat} (hk : k ≠ 0 ∧ k ≠ 8) (ho : Only (fun j => p j = k) w w') : Step p w p w' := ⟨fun _ _ => rfl, ho.mono fun _ _ e => by rw [e]; exact hk⟩
theorem Lo.lt (h : Lo p w g q c) : g < w.heap.size := h.bk.lt
theorem Lo.keep (h : Lo p w g q c) (ho : Only F w w') (hn : ∀ j, j < w.heap.size → p j ≠ 0 → ¬ F j) (hp : ∀ j, j < w.heap.size → p' j = p j) : Lo p' w' g q c where
 bk := h.bk.only ho (hn g h.bk.lt (by rw [h.pg]; decide))
 pg := by rw [hp g h.bk.lt]; exact h.pg
 ar := (h.ar.tight.only ho (fun j hj => hn j hj.2 (by rw [hj.1]; decide))).mono fun j _ hj => by rw [hp j hj.2]; exact hj.1
 tb := (h.tb.tight.only ho (fun j hj => hn j hj.2 (by rw [hj.1]; decide))).mono fun j _ hj => by rw [hp j hj.2]; exact hj.1
 rc := (h.rc.tight.only ho (fun j hj => hn j hj.2 (by rw [hj.1]; decide))).mono fun j _ hj => by rw [hp j hj.2]; exact hj.1
 hp := (h.hp.tight.only ho (fun j hj => hn j hj.2 (by rw [hj.1]; decide))).mono fun j _ hj => by rw [hp j hj.2]; exact hj.1
 ac := (h.ac.tight.only ho (fun j hj => hn j hj.2 (by rw [hj.1]; decide))).mono fun j _ hj => by rw [hp j hj.2]; exact hj.1
 en := h.en.only ho fun b hb => hn _ (h.en.base hb).2.1 (by rw [h.pe b hb]; decide)
 pe := fun b hb => by rw [hp _ (h.en.base hb).2.1]; exact h.pe b hb
 re := fun x hx => ((h.re x hx).only ho (fun j hf hj => hn j hj.2 (by rw [hj.1]; decide) hf)).mono fun j hj => ⟨by rw [hp j hj.2]; exact hj.1, Nat.lt_of_lt_of_le hj.2 ho.size⟩
theorem Lo.below (h : Lo p w g q c) (hb : Below w.heap.size w w') (k : Nat) : Lo (col p k w.heap.size) w' g q c :=
 h.keep (Only.of_below hb (Nat.le_refl _) (fun _ => False)) (fun _ _ _ hf => hf) (fun _ hj => col_lt hj)
theorem Lo.drewN (h : Lo p w g q c) (n : Nat) : Lo p (w.drewN n) g q c :=
 h.keep ((Only.refl (fun _ => False) w).drewN n) (fun _ _ _ hf => hf) (fun _ _ => rfl)
theorem Lo.drew (h : Lo p w g q c) : Lo p w.drew g q c :=
 h.keep ((Only.refl (fun _ => False) w).drew) (fun _ _ _ hf => hf) (fun _ _ => rfl)
variable (hp : ∀ j, j < w.heap.size → p' j = p j)
include hp
theorem Lo.setA (h : Lo p w g q c) {a : Nm.St} (hA : Na.Are F w' q.ga c.m 1 a) (ho : Only (fun j => p j = 2) w w') (hF : ∀ j, j < w'.heap.size → F j → p' j = 2) : Lo p' w' g q { c with a := a } where
 bk := h.bk.only ho (by rw [h.pg]; decide)
 pg := by rw [hp g h.bk.lt]; exact h.pg
 ar := hA.mono hF
 tb := (h.tb.tight.only ho (fun j hj hf => by rw [hj.1] at hf; cases hf)).mono fun j _ hj => by rw [hp j hj.2]; exact hj.1
 rc := (h.rc.tight.only ho (fun j hj hf => by rw [hj.1] at hf; cases hf)).mono fun j _ hj => by rw [hp j hj.2]; exact hj.1
 hp := (h.hp.tight.only ho (fun j hj hf => by rw [hj.1] at hf; cases hf)).mono fun j _ hj => by rw [hp j hj.2]; exact hj.1
 ac := (h.ac.tight.only ho (fun j hj hf => by rw [hj.1] at hf; cases hf)).mono fun j _ hj => by rw [hp j hj.2]; exact hj.1
 en := h.en.only ho fun b hb hf => by rw [h.pe b hb] at hf; cases hf
 pe := fun b hb => by rw [hp _ (h.en.base hb).2.1]; exact h.pe b hb
 re := fun x hx => ((h.re x hx).only ho (fun j hf hj => by rw [hj.1] at hf; cases hf)).mono fun j hj => ⟨by rw [hp j hj.2]; exact hj.1, Nat.lt_of_lt_of_le hj.2 ho.size⟩
theorem Lo.setT (h : Lo p w g q c) {t : List (Tm.Cell Ta.Key)} (hA : Pb.Pt F w' q.gt c.sd t) (ho : Only (fun j => p j = 3) w w') (hF : ∀ j, j < w'.heap.size → F j → p' j = 3) : Lo p' w' g q { c with t := t } where
 bk := h.bk.only ho (by rw [h.pg]; decide)
 pg := by rw [hp g h.bk.lt]; exact h.pg
 ar := (h.ar.tight.only ho (fun j hj hf => by rw [hj.1] at hf; cases hf)).mono fun j _ hj => by rw [hp j hj.2]; exact hj.1
 tb := hA.mono hF
 rc := (h.rc.tight.only ho (fun j hj hf => by rw [hj.1] at hf; cases hf)).mono fun j _ hj => by rw [hp j hj.2]; exact hj.1
 hp := (h.hp.tight.only ho (fun j hj hf => by rw [hj.1] at hf; cases hf)).mono fun j _ hj => by rw [hp j hj.2]; exact hj.1
 ac := (h.ac.tight.only ho (fun j hj hf => by rw [hj.1] at hf; cases hf)).mono fun j _ hj => by rw [hp j hj.2]; exact hj.1
 en := h.en.only ho fun b hb hf => by rw [h.pe b hb] at hf; cases hf
 pe := fun b hb => by rw [hp _ (h.en.base hb).2.1]; exact h.pe b hb
 re := fun x hx => ((h.re x hx).only ho (fun j hf hj => by rw [hj.1] at hf; cases hf)).mono fun j hj => ⟨by rw [hp j hj.2]; exact hj.1, Nat.lt_of_lt_of_le hj.2 ho.size⟩
theorem Lo.setR (h : Lo p w g q c) {r : List Int} (hA : Ue.Rc F w' q.gr r) (ho : Only (fun j => p j = 4) w w') (hF : ∀ j, j < w'.heap.size → F j → p' j = 4) : Lo p' w' g q { c with r := r } where
 bk := h.bk.only ho (by rw [h.pg]; decide)
 pg := by rw [hp g h.bk.lt]; exact h.pg
 ar := (h.ar.tight.only ho (fun j hj hf => by rw [hj.1] at hf; cases hf)).mono fun j _ hj => by rw [hp j hj.2]; exact hj.1
 tb := (h.tb.tight.only ho (fun j hj hf => by rw [hj.1] at hf; cases hf)).mono fun j _ hj => by rw [hp j hj.2]; exact hj.1
 rc := hA.mono hF
 hp := (h.hp.tight.only ho (fun j hj hf => by rw [hj.1] at hf; cases hf)).mono fun j _ hj => by rw [hp j hj.2]; exact hj.1
 ac := (h.ac.tight.only ho (fun j hj hf => by rw [hj.1] at hf; cases hf)).mono fun j _ hj => by rw [hp j hj.2]; exact hj.1
 en := h.en.only ho fun b hb hf => by rw [h.pe b hb] at hf; cases hf
 pe := fun b hb => by rw [hp _ (h.en.base hb).2.1]; exact h.pe b hb
 re := fun x hx => ((h.re x hx).only ho (fun j hf hj => by rw [hj.1] at hf; cases hf)).mono fun j hj => ⟨by rw [hp j hj.2]; exact hj.1, Nat.lt_of_lt_of_le hj.2 ho.size⟩
theorem Lo.setH (h : Lo p w g q c) {d : List Ya.Td} (hA : Ye.Hp F w' q.gh d) (ho : Only (fun j => p j = 5) w w') (hF : ∀ j, j < w'.heap.size → F j → p' j = 5) : Lo p' w' g q { c with h := d } where
 bk := h.bk.only ho (by rw [h.pg]; decide)
 pg := by rw [hp g h.bk.lt]; exact h.pg
 ar := (h.ar.tight.only ho (fun j hj hf => by rw [hj.1] at hf; cases hf)).mono fun j _ hj => by rw [hp j hj.2]; exact hj.1
 tb := (h.tb.tight.only ho (fun j hj hf => by rw [hj.1] at hf; cases hf)).mono fun j _ hj => by rw [hp j hj.2]; exact hj.1
 rc := (h.rc.tight.only ho (fun j hj hf => by rw [hj.1] at hf; cases hf)).mono fun j _ hj => by rw [hp j hj.2]; exact hj.1
 hp := hA.mono hF
 ac := (h.ac.tight.only ho (fun j hj hf => by rw [hj.1] at hf; cases hf)).mono fun j _ hj => by rw [hp j hj.2]; exact hj.1
 en := h.en.only ho fun b hb hf => by rw [h.pe b hb] at hf; cases hf
 pe := fun b hb => by rw [hp _ (h.en.base hb).2.1]; exact h.pe b hb
 re := fun x hx => ((h.re x hx).only ho (fun j hf hj => by rw [hj.1] at hf; cases hf)).mono fun j hj => ⟨by rw [hp j hj.2]; exact hj.1, Nat.lt_of_lt_of_le hj.2 ho.size⟩
theorem Lo.setC (h : Lo p w g q c) {k : Ja.Ac} (hA : Je.Ah F w' q.gc k) (ho : Only (fun j => p j = 6) w w') (hF : ∀ j, j < w'.heap.size → F j → p' j = 6) : Lo p' w' g q { c with k := k } where
 bk := h.bk.only ho (by rw [h.pg]; decide)
 pg := by rw [hp g h.bk.lt]; exact h.pg
 ar := (h.ar.tight.only ho (fun j hj hf => by rw [hj.1] at hf; cases hf)).mono fun j _ hj => by rw [hp j hj.2]; exact hj.1
 tb := (h.tb.tight.only ho (fun j hj hf => by rw [hj.1] at hf; cases hf)).mono fun j _ hj => by rw [hp j hj.2]; exact hj.1
 rc := (h.rc.tight.only ho (fun j hj hf => by rw [hj.1] at hf; cases hf)).mono fun j _ hj => by rw [hp j hj.2]; exact hj.1
 hp := (h.hp.tight.only ho (fun j hj hf => by rw [hj.1] at hf; cases hf)).mono fun j _ hj => by rw [hp j hj.2]; exact hj.1
 ac := hA.mono hF
 en := h.en.only ho fun b hb hf => by rw [h.pe b hb] at hf; cases hf
 pe := fun b hb => by rw [hp _ (h.en.base hb).2.1]; exact h.pe b hb
 re := fun x hx => ((h.re x hx).only ho (fun j hf hj => by rw [hj.1] at hf; cases hf)).mono fun j hj => ⟨by rw [hp j hj.2]; exact hj.1, Nat.lt_of_lt_of_le hj.2 ho.size⟩
omit hp
theorem Lo.setE (h : Lo p w g q c) {E : List Em} {A : Option Addr} {n : Nat} (hB : Blk w' g (stC { q with A := A, c := n } E.length) 69) (hM : Mine 0 6 w' A E.length n (emL E)) (ho : Only (fun j => p j = 1 ∨ p j = 7) w w') (hp : ∀ j, j < w.heap.size → p' j = p j)
  (hA : ∀ b, A = some b → p' b.block = 7) (hE : ∀ x ∈ E, RE (fun j => p j = 8 ∧ j < w.heap.size) w x) : Lo p' w' g { q with A := A, c := n } { c with E := E } where
 bk := hB
 pg := by rw [hp g h.bk.lt]; exact h.pg
 ar := (h.ar.tight.only ho (fun j hj hf => by rw [hj.1] at hf; rcases hf with hf | hf <;> cases hf)).mono fun j _ hj => by rw [hp j hj.2]; exact hj.1
 tb := (h.tb.tight.only ho (fun j hj hf => by rw [hj.1] at hf; rcases hf with hf | hf <;> cases hf)).mono fun j _ hj => by rw [hp j hj.2]; exact hj.1
 rc := (h.rc.tight.only ho (fun j hj hf => by rw [hj.1] at hf; rcases hf with hf | hf <;> cases hf)).mono fun j _ hj => by rw [hp j hj.2]; exact hj.1
 hp := (h.hp.tight.only ho (fun j hj hf => by rw [hj.1] at hf; rcases hf with hf | hf <;> cases hf)).mono fun j _ hj => by rw [hp j hj.2]; exact hj.1
 ac := (h.ac.tight.only ho (fun j hj hf => by rw [hj.1] at hf; rcases hf with hf | hf <;> cases hf)).mono fun j _ hj => by rw [hp j hj.2]; exact hj.1
 en := hM
 pe := hA
 re := fun x hx => ((hE x hx).only ho (fun j hf hj => by rw [hj.1] at hf; rcases hf with hf | hf <;> cases hf)).mono fun j hj => ⟨by rw [hp j hj.2]; exact hj.1, Nat.lt_of_lt_of_le hj.2 ho.size⟩
theorem Step.two (ho : Only (fun j => p j = 1 ∨ p j = 7) w w') (hp : ∀ j, j < w.heap.size → p' j = p j) : Step p w p' w' := ⟨hp, ho.mono fun _ _ e => by rcases e with e | e <;> rw [e] <;> decide⟩
theorem more_col {k : Nat} : ∀ j, j < w'.heap.size → More (fun i => p i = k) w j → col p k w.heap.size j = k := fun j _ hj => by
 rcases Nat.lt_or_ge j w.heap.size with h | h
 ·rw [col_lt h]; exact hj.resolve_right (by omega)
 ·exact col_ge h
theorem Step.on0 (h : Step p w p' w') : Only (fun j => p j ≠ 0) w w' := h.on.mono fun _ _ hj => hj.1
theorem Lo.at_ (h : Lo p w g q c) {n : Nat} (hn : n < c.E.length) : ∃ b o, q.A = some ⟨b, o, none⟩ ∧ b < w.heap.size ∧ p b = 7 ∧
  w.cell? ⟨b, o + n * 6, none⟩ = some (.string c.E[n].e.k) ∧ w.cell? ⟨b, o + n * 6 + 1, none⟩ = some (.slice c.E[n].A c.E[n].e.v.length c.E[n].a) ∧ w.cell? ⟨b, o + n * 6 + 2, none⟩ = some (.slice c.E[n].B c.E[n].e.t.length c.E[n].b) ∧
  w.cell? ⟨b, o + n * 6 + 3, none⟩ = some (.int .u64 c.E[n].e.d) ∧ w.cell? ⟨b, o + n * 6 + 4, none⟩ = some (.int .u64 c.E[n].e.n) ∧ w.cell? ⟨b, o + n * 6 + 5, none⟩ = some (.int .u64 c.E[n].e.s) ∧ ∀ k, k < 6 → w.frozen? ⟨b, o + n * 6 + k, none⟩ = false := by
 obtain ⟨g0, g1, g2, g3, g4, g5⟩ := emL_get c.E n hn
 obtain ⟨b, o, e, _, hb⟩ := mine_place h.en (by rw [emL_len]; omega)
 have hM := h.en
 rw [e] at hM
 have hp := h.pe _ e
 refine ⟨b, o, e, hb, hp, (mine_cell hM g0).1, by rw [Nat.add_assoc]; exact (mine_cell hM g1).1, by rw [Nat.add_assoc]; exact (mine_cell hM g2).1, by rw [Nat.add_assoc]; exact (mine_cell hM g3).1, by rw [Nat.add_assoc]; exact (mine_cell hM g4).1, by rw [Nat.add_assoc]; exact (mine_cell hM g5).1, fun k hk => ?_⟩
 have hl : n * 6 + k < (emL c.E).length := by rw [emL_len]; omega
 rw [Nat.add_assoc]
 exact (mine_cell hM (List.getElem?_eq_getElem hl)).2
structure Tk (p : Nat → Nat) (w : World) (B : List (Nat × Array Value × TypeId)) (Y : List Em) (p1 : Nat → Nat) (v : World) (g : Nat) (q : Ptr) (c : Ct) : Prop where
 lo : Lo p1 v g q c
 st : Step p w p1 v
 bs : ∀ b ∈ B, Blk v b.1 b.2.1 b.2.2 ∧ p1 b.1 = 0
 ys : ∀ y ∈ Y, RE (fun j => p1 j = 8 ∧ j < v.heap.size) v y
variable {B : List (Nat × Array Value × TypeId)} {Y : List Em} {v v' : World} {q' : Ptr} {c' : Ct}
theorem Tk.start (h : Lo p w g q c) : Tk p w [] [] p w g q c := ⟨h, Step.refl _ _, (fun _ hb => by cases hb), (fun _ hy => by cases hy)⟩
theorem Tk.next (h : Tk p w B Y p1 v g q c) (L : Lo p2 v' g q' c') (S : Step p1 v p2 v') : Tk p w B Y p2 v' g q' c' := by
 refine ⟨L, h.st.trans S, fun b hb => ?_, fun y hy => ?_⟩
 ·obtain ⟨h1, h2⟩ := h.bs b hb
  exact ⟨h1.only S.on (fun hf => hf.1 h2), by rw [S.eq _ h1.lt]; exact h2⟩
 ·exact ((h.ys y hy).only S.on (fun j hf hj => hf.2 hj.1)).mono fun j hj => ⟨by rw [S.eq j hj.2]; exact hj.1, Nat.lt_of_lt_of_le hj.2 S.on.size⟩
theorem Tk.below (h : Tk p w B Y p1 v g q c) (hb : Below v.heap.size v v') : Tk p w B Y (col p1 0 v.heap.size) v' g q c := h.next (h.lo.below hb 0) (Step.below hb 0)
theorem Tk.drew (h : Tk p w B Y p1 v g q c) : Tk p w B Y p1 v.drew g q c := h.next h.lo.drew ⟨fun _ _ => rfl, (Only.refl _ v).drew⟩
theorem Tk.drewN (h : Tk p w B Y p1 v g q c) (n : Nat) : Tk p w B Y p1 (v.drewN n) g q c := h.next (h.lo.drewN n) ⟨fun _ _ => rfl, (Only.refl _ v).drewN n⟩
theorem Tk.add (h : Tk p w B Y p1 v g q c) {b : Nat} {cs : Array Value} {t : TypeId} (hb : Blk v b cs t) (hp : p1 b = 0) : Tk p w ((b, cs, t) :: B) Y p1 v g q c :=
 ⟨h.lo, h.st, fun x hx => by rcases List.mem_cons.1 hx with rfl | hx; exact ⟨hb, hp⟩; exact h.bs x hx, h.ys⟩
theorem Tk.addY (h : Tk p w B Y p1 v g q c) {y : Em} (hy : RE (fun j => p1 j = 8 ∧ j < v.heap.size) v y) : Tk p w B (y :: Y) p1 v g q c :=
 ⟨h.lo, h.st, h.bs, fun x hx => by rcases List.mem_cons.1 hx with rfl | hx; exact hy; exact h.ys x hx⟩
theorem Tk.sub (h : Tk p w B Y p1 v g q c) {B' : List (Nat × Array Value × TypeId)} {Y' : List Em} (hB : ∀ b ∈ B', b ∈ B) (hY : ∀ y ∈ Y', y ∈ Y) : Tk p w B' Y' p1 v g q c :=
 ⟨h.lo, h.st, fun b hb => h.bs b (hB b hb), fun y hy => h.ys y (hY y hy)⟩
theorem Tk.put (h : Tk p w B Y p1 v g q c) {b : Nat} (hb : p1 b = 0) (ho : Only (fun j => j = b) v v') (hB : ∀ x ∈ B, x.1 ≠ b) (S : b < w.heap.size → False) : Tk p w B Y p1 v' g q c where
 lo := h.lo.keep ho (fun j _ hj e => hj (by rw [e]; exact hb)) (fun _ _ => rfl)
 st := ⟨h.st.eq, h.st.on.trans (ho.mono fun j _ e => Or.inr (by rw [e]; exact Nat.not_lt.1 S))⟩
 bs := fun x hx => ⟨(h.bs x hx).1.only ho (hB x hx), (h.bs x hx).2⟩
 ys := fun y hy => ((h.ys y hy).only ho (fun j e hj => by rw [e, hb] at hj; cases hj.1)).mono fun j hj => ⟨hj.1, Nat.lt_of_lt_of_le hj.2 ho.size⟩
theorem Tk.get (h : Tk p w B Y p1 v g q c) {b : Nat} {cs : Array Value} {t : TypeId} (hb : (b, cs, t) ∈ B) : Blk v b cs t ∧ p1 b = 0 := h.bs _ hb
structure Bt (hs : Nat → Prop) (cx cn : Int) (p : Nat → Nat) (w : World) (g : Nat) (s : Sx) (ns : List Nat) (q : Ptr) (c : Ct) : Prop where
 lo : Lo p w g q c
 rel : Rel hs cx cn s ns c.E c.a c.t c.h c.k
 r : c.r = iI ns
 m : (c.m : Int) = s.e
end
end Go.Proofs.YtlmljhnogmfcfaaGreat.Ic
namespace Go.Proofs.YtlmljhnogmfcfaaGreat.Ik
open Go.RowKit Ap Mi Nw Ea Eb Ec Ed Ee El Ia Ic

section
variable {p : Nat → Nat} {w : World} {g : Nat} {q : Ptr} {c : Ct} {s : Sx} {ns : List Nat} {hs : Nat → Prop} {cx cn : Int}
theorem Lo.six (h : Lo p w g q c) : w.cell? ⟨g, 0, none⟩ = some (.pointer (some ⟨q.ga, 0, none⟩)) ∧ w.cell? ⟨g, 1, none⟩ = some (.slice q.A c.E.length q.c) ∧ w.cell? ⟨g, 2, none⟩ = some (.pointer (some ⟨q.gt, 0, none⟩)) ∧ w.cell? ⟨g, 3, none⟩ = some (.pointer (some ⟨q.gr, 0, none⟩)) ∧ w.cell? ⟨g, 4, none⟩ = some (.pointer (some ⟨q.gh, 0, none⟩)) ∧ w.cell? ⟨g, 5, none⟩ = some (.pointer (some ⟨q.gc, 0, none⟩)) := by
 obtain ⟨h0, h1, h2, h3, h4, h5, _⟩ := Eb.six (show Blk w g #[ptV q.ga, .slice q.A c.E.length q.c, ptV q.gt, ptV q.gr, ptV q.gh, ptV q.gc] 69 from h.bk)
 exact ⟨h0, h1, h2, h3, h4, h5⟩
theorem usable_any (h : Lo p w g q c) : Calls Tryz.prog 65 #[.pointer (some ⟨g, 0, none⟩)] w fun e w' => e = .returned (.bool true) ∧ w' = w := by
 obtain ⟨h0, h1, h2, h3, h4, h5⟩ := Lo.six h
 clear h h0 h1 h2 h3 h4
 go_enter Tryz.func65, Tryz.ntmps65
 go_wp2_with fail
 go_ret
 exact ⟨rfl, rfl⟩
theorem slot_any (h : Lo p w g q c) (k : ByteArray) (hk : k.size ≤ 1000000) {n e : Int} (hG : Tf.Gets c.t (kb k) n e) : Calls Tryz.prog 62 #[.pointer (some ⟨g, 0, none⟩), .string k] w (Eb.vPost w (.tuple #[.int .i64 n, .int .i64 e])) := by
 obtain ⟨h0, h1, h2, h3, h4, h5⟩ := Lo.six h
 have HU := Lib.hid (usable_any h)
 have HG := Lib.hid (Pb.get_any h.tb (kb k) (by rw [kb_len]; exact hk) hG)
 rw [kb_str] at HG
 clear h h0 h1 h3 h4 h5 hG
 go_enter Tryz.func62, Tryz.ntmps62
 go_wp2_with fail
 refine HU.out.mono ?_
 rintro _ w1 ⟨rfl, rfl⟩
 go_wp2_with fail
 refine HG.out.mono ?_
 rintro _ w2 ⟨rfl, hb⟩
 have HB := Lib.hid hb
 clear hb
 go_wp2_with fail
 go_ret2
 exact ⟨rfl, HB.out⟩
theorem over_any (h : Lo p w g q c) : Calls Tryz.prog 104 #[.pointer (some ⟨g, 0, none⟩)] w (Eb.vPost w (.bool (decide (0 < Ja.ovB c.k ∨ 0 < Ja.ovE c.k)))) := by
 obtain ⟨h0, h1, h2, h3, h4, h5⟩ := Lo.six h
 have HO := Lib.hid (Je.over_any h.ac)
 obtain ⟨a, ha⟩ : ∃ a, a = Ja.ovB c.k := ⟨_, rfl⟩
 obtain ⟨b, hb⟩ : ∃ b, b = Ja.ovE c.k := ⟨_, rfl⟩
 rw [← ha, ← hb] at HO ⊢
 clear h h0 h1 h2 h3 h4 ha hb
 by_cases k1 : 0 < a
 ·have d1 : decide (a > 0) = true := by simpa using k1
  have HR : Hid (decide (0 < a ∨ 0 < b) = true) := by show _ = _; simp [k1]
  go_enter Tryz.func104, Tryz.ntmps104
  go_wp2_with fail
  refine HO.out.mono ?_
  rintro _ w2 ⟨rfl, hb⟩
  have HB := Lib.hid hb
  clear hb
  go_wp2_with fail
  go_ret
  exact ⟨retB HR.out.symm, HB.out⟩
 ·have d1 : decide (a > 0) = false := by simpa using k1
  have HR : Hid (decide (0 < a ∨ 0 < b) = decide (b > 0)) := by show _ = _; simp [k1]
  go_enter Tryz.func104, Tryz.ntmps104
  go_wp2_with fail
  refine HO.out.mono ?_
  rintro _ w2 ⟨rfl, hb⟩
  have HB := Lib.hid hb
  clear hb
  go_wp2_with fail
  go_ret
  exact ⟨retB (by rw [HR.out]), HB.out⟩
end
end Go.Proofs.YtlmljhnogmfcfaaGreat.Ik
namespace Go.Proofs.YtlmljhnogmfcfaaGreat.Ie
open Go.RowKit Ap Mi Nw Rg Ea Eb Ec Ed Ee El Ia Ib Ic Ik

structure Gv (p' : Nat → Nat) (w w' : World) (y : Em) : Prop where
 ow : OwE w.heap.size w' y
 re : RE (fun j => p' j = 0 ∧ w.heap.size ≤ j) w' y
def takePost (hs : Nat → Prop) (cx cn : Int) (p : Nat → Nat) (w : World) (g : Nat) (s : Sx) (ns : List Nat) (q : Ptr) (e : En) : Ending → World → Prop := fun r w' => ∃ p' y c', r = .returned (emV y) ∧ y.e = e ∧ Gv p' w w' y ∧ Step p w p' w' ∧ Bt hs cx cn p' w' g s ns q c' 
theorem put6_row {w : World} {b o n c : Nat} {E : List Em} (h : Mine 0 6 w (some ⟨b, o, none⟩) n c (emL E)) {k : Nat} (hk : k < E.length) (x : Em) :
  Mine 0 6 ((((((w.setCell ⟨b, o + k * 6, none⟩ (.string x.e.k)).setCell ⟨b, o + k * 6 + 1, none⟩ (.slice x.A x.e.v.length x.a)).setCell ⟨b, o + k * 6 + 2, none⟩ (.slice x.B x.e.t.length x.b)).setCell ⟨b, o + k * 6 + 3, none⟩ (.int .u64 x.e.d)).setCell ⟨b, o + k * 6 + 4, none⟩ (.int .u64 x.e.n)).setCell ⟨b, o + k * 6 + 5, none⟩ (.int .u64 x.e.s)) (some ⟨b, o, none⟩) n c (emL (E.set k x)) := by
 have hl : (emL E).length = E.length * 6 := emL_len E
 have h6 := mine_put (mine_put (mine_put (mine_put (mine_put (mine_put h (k * 6) (.string x.e.k) (by omega) rfl) (k * 6 + 1) (.slice x.A x.e.v.length x.a) (by simp; omega) rfl) (k * 6 + 2) (.slice x.B x.e.t.length x.b) (by simp; omega) rfl) (k * 6 + 3) (.int .u64 x.e.d) (by simp; omega) rfl) (k * 6 + 4) (.int .u64 x.e.n) (by simp; omega) rfl) (k * 6 + 5) (.int .u64 x.e.s) (by simp; omega) rfl
 have hs : ((((((emL E).set (k * 6) (.string x.e.k)).set (k * 6 + 1) (.slice x.A x.e.v.length x.a)).set (k * 6 + 2) (.slice x.B x.e.t.length x.b)).set (k * 6 + 3) (.int .u64 x.e.d)).set (k * 6 + 4) (.int .u64 x.e.n)).set (k * 6 + 5) (.int .u64 x.e.s) = emL (E.set k x) := by
  clear h h6 hl
  induction E generalizing k with
  | nil => simp at hk
  | cons y r ih =>
   cases k with
   | zero => rw [List.set_cons_zero, emL_cons, emL_cons]; rfl
   | succ k =>
    rw [List.set_cons_succ, emL_cons, emL_cons, ← ih (by simpa using hk)]
    have e : (k + 1) * 6 = k * 6 + 1 + 1 + 1 + 1 + 1 + 1 := by omega
    rw [e]
    rfl
 rw [hs] at h6
 simpa only [Nat.add_assoc] using h6
section
variable {hs : Nat → Prop} {cx cn : Int} {p : Nat → Nat} {w : World} {g : Nat} {s : Sx} {ns : List Nat} {q : Ptr} {c : Ct}
set_option maxRecDepth 100000 in
set_option maxHeartbeats 4000000 in
theorem take_any (h : Bt hs cx cn p w g s ns q c) {i : Nat} (hi : i < ns.length) :
  Calls Tryz.prog 64 #[.pointer (some ⟨g, 0, none⟩), .int .i64 (ns[i] : Int)] w (takePost hs cx cn p w g { s with l := wo s.l i } (wn ns ns[i]) q (en c.E ns[i])) := by
 obtain ⟨n, hn⟩ : ∃ n, n = ns[i] := ⟨_, rfl⟩
 have hnm : n ∈ ns := by rw [hn]; exact List.getElem_mem hi
 have hnl := h.rel.lt n hnm
 have hbig := h.rel.big
 obtain ⟨x, hx⟩ : ∃ x, x = c.E[n] := ⟨_, rfl⟩
 have hxe : en c.E n = x.e := by rw [hx]; exact en_at hnl
 have HOK := Lib.hid (h.rel.oke hnm)
 rw [hxe] at HOK
 have hia : Nm.ist c.a (n : Int) = true := by rw [Nm.ist_nat, (h.rel.am n hnl).2 hnm]; rfl
 obtain ⟨G0, hG0⟩ : ∃ G0, G0 = Nm.gv (Nm.genAt c.a (n : Int)) := ⟨_, rfl⟩
 have HHB : Hid (Nm.hasB c.a (n : Int) G0 = true) := Nm.has_mk hia hG0.symm
 obtain ⟨s1, s2, s3⟩ := Nm.ans_yes hia
 rw [← hG0] at s2
 have HAT : Hid (∀ v, Na.Are (fun j => True) v q.ga c.m 1 c.a → Calls Tryz.prog 93 #[.pointer (some ⟨q.ga, 0, none⟩), .int .i64 (n : Int)] v (Eb.vPost v (.tuple #[.agg #[.int .i64 (n : Int), .int .i64 G0], .int .i64 0]))) := fun v hv => by have := Nb.at_any hv (n : Int); unfold Nb.atPost at this; rw [s1, s2, s3] at this; exact this
 have HFR : Hid (Nm.frS c.a (n : Int) G0 = ⟨c.a.gens.set n (Nm.genAt c.a (n : Int) + 1), c.a.tk.set n false, c.a.fr ++ [n]⟩) := Nx.frS_nat HHB.out
 have htm : some (kb x.e.k, n) ∈ c.t := (h.rel.tm _ _).2 ⟨hnm, by rw [hxe]⟩
 obtain ⟨j, hj⟩ := List.mem_iff_getElem?.1 htm
 have HDL : Hid (Th.Dels c.sd c.t (kb x.e.k) (To.delT (Ta.hom c.sd) c.t j) (n : Int) 0) := Or.inr ⟨by rw [kb_ok]; simpa using HOK.out.1.1, ⟨j, n, hj, rfl, rfl⟩, rfl⟩
 have HDG := Lib.hid (To.del_good h.lo.tb.good hj)
 obtain ⟨T, hT⟩ : ∃ T, T = To.delT (Ta.hom c.sd) c.t j := ⟨_, rfl⟩
 rw [← hT] at HDL HDG
 have HLM : Hid (c.t.length ≤ 8388608) := h.lo.tb.pl.lim
 have HR1 := Lib.hid (h.rel.take hi (t' := T) (a' := ⟨c.a.gens.set n (Nm.genAt c.a (n : Int) + 1), c.a.tk.set n false, c.a.fr ++ [n]⟩) (by rw [← hn, hxe]; exact HDG.out.2.2.2) HDG.out.2.2.1 (by simp) (by rw [← hn]) h.lo.ar.inv.tl)
 rw [← hn, hxe] at HR1
 have HRC : Hid (Ua.remT c.r (n : Int) = iI (wn ns n)) := by show _ = _; rw [h.r]; unfold Ua.remT; rw [if_pos ⟨(h.rel.sl hnm).1, mem_iI.2 hnm⟩, iI_wn]
 have HCV : Hid (Jc.costV x.e.k x.e.v.length x.e.t = (cost x.e : Int)) := cost_v HOK.out.1
 have HCN : Hid (Jc.costN x.e.k x.e.v.length x.e.t = 0) := (Jc.cost_good (⟨HOK.out.1.1, HOK.out.1.2.2⟩ : Jc.keyOk x.e.k ∧ Jc.okT x.e.t) HOK.out.1.2.1).2
 have HM := Lib.hid h.m
 obtain ⟨b, o, hA, hb, hpb, e0, e1, e2, e3, e4, e5, _⟩ := h.lo.at_ hnl
 obtain ⟨g0, g1, g2, g3, g4, g5⟩ := Ik.Lo.six h.lo
 rw [← hx] at e0 e1 e2 e3 e4 e5
 rw [hA] at g1
 have hgl := h.lo.lt
 have i1 : (n : Int) < (c.E.length : Int) := by omega
 obtain ⟨C, hC⟩ : ∃ C, C = w.heap.size := ⟨_, rfl⟩
 obtain ⟨v1, hv1⟩ : ∃ v1, v1 = (w.alloc (.cells zA 42)).alloc (.cells (emA x) 42) := ⟨_, rfl⟩
 have HT1 : ∃ p1, Tk p w [(C + 1, emA x, 42), (C, zA, 42)] [x] p1 v1 g q c := by
  refine ⟨col p 0 w.heap.size, ?_⟩
  have hb : Below w.heap.size w v1 := by rw [hv1]; exact (bnew _ _).alloc (by simp) _
  have t0 := ((Tk.start h.lo).addY (by have := h.lo.re x (by rw [hx]; exact List.getElem_mem _); exact this)).below hb
  refine (t0.add (b := C) ?_ (col_ge (by omega))).add (b := C + 1) ?_ (col_ge (by omega))
  ·rw [hv1, hC]; exact (Blk.new w _ _).below (bnew _ _) (by simp)
  ·rw [hv1, hC]; have := Blk.new (w.alloc (.cells zA 42)) (emA x) 42; simpa using this
 obtain ⟨p1, ht1⟩ := HT1
 have HT1 := Lib.hid ht1
 have HC := Lib.hid hC
 have HXE := Lib.hid hxe; have HAA := Lib.hid hA; have HIB := Lib.hid hi
 rw [← hn, hxe]
 unfold takePost
 unfold zA emA at hv1
 clear h hnm hx hxe hG0 hia s1 s2 s3 htm hj hT ht1 g2 g3 g4 g5 hn hA hpb hi
 go_enter Tryz.func64, Tryz.ntmps64
 go_wp2_with fail
 rw [← hv1, ← hC]
 clear hv1 hC g0 g1 e0 e1 e2 e3 e4 e5 hgl hb
 refine (HAT.out v1 (HT1.out.lo.ar.mono fun _ _ _ => trivial)).mono ?_
 rintro _ v2 ⟨rfl, b2⟩
 have HT2 := Lib.hid (HT1.out.below b2)
 clear b2
 obtain ⟨g0, g1, g2, g3, g4, g5⟩ := Ik.Lo.six HT2.out.lo
 have hgl := HT2.out.lo.lt
 obtain ⟨R, hR⟩ : ∃ R, R = v2.heap.size := ⟨_, rfl⟩
 obtain ⟨v3, hv3⟩ : ∃ v3, v3 = v2.alloc (.cells #[.int .i64 (n : Int), .int .i64 G0] 149) := ⟨_, rfl⟩
 have HT3 : Hid (Tk p w [(R, #[.int .i64 (n : Int), .int .i64 G0], 149), (C + 1, emA x, 42), (C, zA, 42)] [x] (col (col p1 0 v1.heap.size) 0 v2.heap.size) v3 g q c) := by
  have hb : Below v2.heap.size v2 v3 := by rw [hv3]; exact bnew _ _
  exact (HT2.out.below hb).add (by rw [hv3, hR]; exact Blk.new _ _ _) (col_ge (by omega))
 obtain ⟨p3, hp3⟩ : ∃ p3, p3 = col (col p1 0 v1.heap.size) 0 v2.heap.size := ⟨_, rfl⟩
 rw [← hp3] at HT3
 clear hp3
 go_wp2_with fail
 rw [← hv3, ← hR]
 clear hv3 hR
 clear g0 g1 g2 g3 g4 g5 hgl
 obtain ⟨g0, g1, g2, g3, g4, g5⟩ := Ik.Lo.six HT3.out.lo
 have hgl := HT3.out.lo.lt
 obtain ⟨r0, r1, _, _⟩ := (HT3.out.get (b := R) (cs := #[.int .i64 (n : Int), .int .i64 G0]) (t := 149) (by simp)).1.two
 have HD3 := Lib.hid HT3.out.drew
 have hS0 : v3.drew.cell? ⟨g, 0, none⟩ = some (.pointer (some ⟨q.ga, 0, none⟩)) ∧ v3.drew.cell? ⟨R, 0, none⟩ = some (.int .i64 (n : Int)) ∧ v3.drew.cell? ⟨R, 1, none⟩ = some (.int .i64 G0) := ⟨g0, r0, r1⟩
 clear g0 g1 g2 g3 g4 g5 hgl
 clear r0 r1
 refine wp_region_noPanic ?_
 refine wp_region_G 5 (fun v => v.cell? ⟨g, 0, none⟩ = some (.pointer (some ⟨q.ga, 0, none⟩)) ∧ v.cell? ⟨R, 0, none⟩ = some (.int .i64 (n : Int)) ∧ v.cell? ⟨R, 1, none⟩ = some (.int .i64 G0)) (by kernel_rfl) ?_
 obtain ⟨u4, hu4⟩ : ∃ u4, u4 = v3.drew := ⟨_, rfl⟩
 rw [← hu4] at hS0 HD3 ⊢
 clear hu4
 have HT4 := HD3
 clear HD3
 refine Rg.tg 0 (some 26) (v := ?_) rfl (by kernel_rfl) (fun _ _ _ h => h) (by rfl) (hS0) ?_ ?_
 rotate_left
 ·intro w hSw; go_simp; first | done | with_reducible rfl
 try simp only [Ap.sc]
 refine Rg.tg 1 (some 27) (v := ?_) rfl (by kernel_rfl) (fun _ _ _ h => h) (by rfl) (hS0) ?_ ?_
 rotate_left
 ·intro w hSw; go_simp; first | done | with_reducible rfl
 try simp only [Ap.sc]
 refine Rg.tg 2 (some 28) (v := ?_) rfl (by kernel_rfl) (fun _ _ _ h => h) (by rfl) (hS0) ?_ ?_
 rotate_left
 ·intro w hSw; go_simp; first | done | with_reducible rfl
 try simp only [Ap.sc]
 refine Rg.tg 3 (some 29) (v := ?_) rfl (by kernel_rfl) (fun _ _ _ h => h) (by rfl) (hS0) ?_ ?_
 rotate_left
 ·intro w hSw; go_simp; first | done | with_reducible rfl
 try simp only [Ap.sc]
 refine Rg.tg 4 (some 30) (v := ?_) rfl (by kernel_rfl) (fun _ _ _ h => h) (by rfl) (hS0) ?_ ?_
 rotate_left
 ·intro w hSw; go_simp; first | done | with_reducible rfl
 try simp only [Ap.sc]
 refine wpAnyG_ready (rs := [5]) (by kernel_rfl) (by simp) ?_
 refine AllReadyG.cons (o := ⟨some 31, _, _, _, _, _⟩) rfl (fun K hK => ?_) AllReadyG.nil
 go_simp
 refine (Nx.free_yes HT4.out.lo.ar n G0 HHB.out).mono ?_
 rintro _ v5 ⟨rfl, ha, ho⟩
 rw [HFR.out] at ha
 have HT5 := Lib.hid ((HT4.out.next (HT4.out.lo.setA (p' := col p3 2 u4.heap.size) (fun _ hj => col_lt hj) ha ho more_col) (Step.part (by decide) ho)).sub (B' := [(C + 1, emA x, 42), (C, zA, 42)]) (Y' := [x]) (by simp) (by simp))
 clear ha ho
 refine hK.out _ _ (fun h => absurd h (by omega)) ?_
 clear hK K
 try simp only [Ap.sc]
 refine wpAnyG_done (by kernel_rfl) ?_ _
 refine NoPanic.normal ?_
 obtain ⟨p5, hp5⟩ : ∃ p5, p5 = col p3 2 u4.heap.size := ⟨_, rfl⟩
 rw [← hp5] at HT5
 clear hp5 hS0
 obtain ⟨b, o, hA, hb, hpb, e0, e1, e2, e3, e4, e5, ef⟩ := HT5.out.lo.at_ (n := n) hnl
 have ef0 := ef 0 (by omega); have ef1 := ef 1 (by omega); have ef2 := ef 2 (by omega); have ef3 := ef 3 (by omega); have ef4 := ef 4 (by omega); have ef5 := ef 5 (by omega)
 rw [Nat.add_zero] at ef0
 obtain ⟨g0, g1, g2, g3, g4, g5⟩ := Ik.Lo.six HT5.out.lo
 have hgl := HT5.out.lo.lt
 rw [hA] at g1
 simp only at g1
 obtain ⟨c6, hc6⟩ : ∃ c6 : Ct, c6 = { c with a := ⟨c.a.gens.set n (Nm.genAt c.a (n : Int) + 1), c.a.tk.set n false, c.a.fr ++ [n]⟩, E := c.E.set n zeroM } := ⟨_, rfl⟩
 obtain ⟨v6, hv6⟩ : ∃ v6, v6 = (((((v5.setCell ⟨b, o + n * 6, none⟩ (.string ⟨#[]⟩)).setCell ⟨b, o + n * 6 + 1, none⟩ (.slice none 0 0)).setCell ⟨b, o + n * 6 + 2, none⟩ (.slice none 0 0)).setCell ⟨b, o + n * 6 + 3, none⟩ (.int .u64 0)).setCell ⟨b, o + n * 6 + 4, none⟩ (.int .u64 0)).setCell ⟨b, o + n * 6 + 5, none⟩ (.int .u64 0) := ⟨_, rfl⟩
 have HT6 : Hid (Tk p w [(C + 1, emA x, 42), (C, zA, 42)] [x] p5 v6 g q c6) := by
  have ho : Only (fun j => j = b) v5 v6 := by rw [hv6]; exact ((((((Only.refl (fun j => j = b) v5).put (ad := ⟨b, o + n * 6, none⟩) rfl _).put (ad := ⟨b, o + n * 6 + 1, none⟩) rfl _).put (ad := ⟨b, o + n * 6 + 2, none⟩) rfl _).put (ad := ⟨b, o + n * 6 + 3, none⟩) rfl _).put (ad := ⟨b, o + n * 6 + 4, none⟩) rfl _).put (ad := ⟨b, o + n * 6 + 5, none⟩) rfl _
  have hM := HT5.out.lo.en
  rw [hA] at hM
  have hM6 := put6_row hM (k := n) hnl zeroM
  have ho7 : Only (fun j => p5 j = 1 ∨ p5 j = 7) v5 v6 := ho.mono fun j _ e => by rw [e]; exact Or.inr hpb
  have hgb : g ≠ b := fun e => by have := HT5.out.lo.pg; rw [e, hpb] at this; cases this
  rw [hc6]
  refine HT5.out.next (HT5.out.lo.setE (E := c.E.set n zeroM) (A := q.A) (n := q.c) ?_ ?_ ho7 (fun _ _ => rfl) HT5.out.lo.pe ?_) (Step.two ho7 (fun _ _ => rfl))
  ·rw [List.length_set]; exact HT5.out.lo.bk.only ho hgb
  ·rw [hA, List.length_set, hv6]; exact hM6
  ·intro y hy
   rcases List.mem_or_eq_of_mem_set hy with hy | hy
   ·exact HT5.out.lo.re y hy
   ·rw [hy]; exact RE.zero
 have HC6 : Hid (c6.m = c.m ∧ c6.sd = c.sd ∧ c6.t = c.t ∧ c6.r = c.r ∧ c6.h = c.h ∧ c6.k = c.k ∧ c6.E = c.E.set n zeroM ∧ c6.a = ⟨c.a.gens.set n (Nm.genAt c.a (n : Int) + 1), c.a.tk.set n false, c.a.fr ++ [n]⟩) := by show _ ∧ _; rw [hc6]; exact ⟨rfl, rfl, rfl, rfl, rfl, rfl, rfl, rfl⟩
 clear hc6
 go_wp2_with fail
 rw [← hv6]
 clear hv6 e0 e1 e2 e3 e4 e5 ef ef0 ef1 ef2 ef3 ef4 ef5 hA hb hpb
 clear g0 g1 g2 g3 g4 g5 hgl
 obtain ⟨g0, g1, g2, g3, g4, g5⟩ := Ik.Lo.six HT6.out.lo
 have hgl := HT6.out.lo.lt
 have HKX := (HT6.out.get (b := C + 1) (cs := emA x) (t := 42) (by simp)).1
 unfold emA at HKX
 obtain ⟨x0, x1, x2, x3, x4, x5, xf⟩ := six HKX
 have hxl := HKX.lt
 clear HKX xf
 have HD6 := Lib.hid HT6.out.drew
 have hS0 : v6.drew.cell? ⟨g, 2, none⟩ = some (.pointer (some ⟨q.gt, 0, none⟩)) ∧ v6.drew.cell? ⟨C + 1, 0, none⟩ = some (.string x.e.k) := ⟨g2, x0⟩
 clear g0 g1 g2 g3 g4 g5 hgl
 clear x0 x1 x2 x3 x4 x5 hxl
 refine wp_region_noPanic ?_
 refine wp_region_G 6 (fun v => v.cell? ⟨g, 2, none⟩ = some (.pointer (some ⟨q.gt, 0, none⟩)) ∧ v.cell? ⟨C + 1, 0, none⟩ = some (.string x.e.k)) (by kernel_rfl) ?_
 obtain ⟨u7, hu7⟩ : ∃ u7, u7 = v6.drew := ⟨_, rfl⟩
 rw [← hu7] at hS0 HD6 ⊢
 clear hu7
 have HT7 := HD6
 clear HD6
 refine Rg.tg 0 (some 39) (v := ?_) rfl (by kernel_rfl) (fun _ _ _ h => h) (by rfl) (hS0) ?_ ?_
 rotate_left
 ·intro w hSw; go_simp; first | done | with_reducible rfl
 try simp only [Ap.sc]
 refine Rg.tg 1 (some 40) (v := ?_) rfl (by kernel_rfl) (fun _ _ _ h => h) (by rfl) (hS0) ?_ ?_
 rotate_left
 ·intro w hSw; go_simp; first | done | with_reducible rfl
 try simp only [Ap.sc]
 refine Rg.tg 2 (some 41) (v := ?_) rfl (by kernel_rfl) (fun _ _ _ h => h) (by rfl) (hS0) ?_ ?_
 rotate_left
 ·intro w hSw; go_simp; first | done | with_reducible rfl
 try simp only [Ap.sc]
 refine Rg.tg 3 (some 42) (v := ?_) rfl (by kernel_rfl) (fun _ _ _ h => h) (by rfl) (hS0) ?_ ?_
 rotate_left
 ·intro w hSw; go_simp; first | done | with_reducible rfl
 try simp only [Ap.sc]
 refine Rg.tg 4 (some 43) (v := ?_) rfl (by kernel_rfl) (fun _ _ _ h => h) (by rfl) (hS0) ?_ ?_
 rotate_left
 ·intro w hSw; go_simp; first | done | with_reducible rfl
 try simp only [Ap.sc]
 refine Rg.tg 5 (some 44) (v := ?_) rfl (by kernel_rfl) (fun _ _ _ h => h) (by rfl) (hS0) ?_ ?_
 rotate_left
 ·intro w hSw; go_simp; first | done | with_reducible rfl
 try simp only [Ap.sc]
 refine wpAnyG_ready (rs := [6]) (by kernel_rfl) (by simp) ?_
 refine AllReadyG.cons (o := ⟨some 45, _, _, _, _, _⟩) rfl (fun K hK => ?_) AllReadyG.nil
 go_simp
 have HDA := Pg.del_any (c := c.t) (seed := c.sd) (by have := HT7.out.lo.tb; rw [HC6.out.2.2.1, HC6.out.2.1] at this; exact this) (kb x.e.k) (by rw [kb_len]; have := HOK.out.2.k; omega) HLM.out HDL.out
 rw [kb_str] at HDA
 refine HDA.mono ?_
 rintro _ v8 ⟨rfl, ha, ho⟩
 clear HDA
 have HT8 := Lib.hid (HT7.out.next (HT7.out.lo.setT (p' := col p5 3 u7.heap.size) (fun _ hj => col_lt hj) (by rw [HC6.out.2.1]; exact ha) ho more_col) (Step.part (by decide) ho))
 clear ha ho
 refine hK.out _ _ (fun h => absurd h (by omega)) ?_
 clear hK K
 try simp only [Ap.sc]
 refine wpAnyG_done (by kernel_rfl) ?_ _
 refine NoPanic.normal ?_
 obtain ⟨p8, hp8⟩ : ∃ p8, p8 = col p5 3 u7.heap.size := ⟨_, rfl⟩
 rw [← hp8] at HT8
 clear hp8 hS0
 obtain ⟨g0, g1, g2, g3, g4, g5⟩ := Ik.Lo.six HT8.out.lo
 have hgl := HT8.out.lo.lt
 go_wp2_with fail
 clear g0 g1 g2 g3 g4 g5 hgl
 refine (Ue.remove_str HT8.out.lo.rc (n : Int)).mono ?_
 rintro _ v9 ⟨rfl, ha, ho⟩
 have HT9 := Lib.hid (HT8.out.next (HT8.out.lo.setR (p' := p8) (fun _ _ => rfl) ha ho (fun _ _ hj => hj)) (Step.same (by decide) ho))
 clear ha ho
 obtain ⟨g0, g1, g2, g3, g4, g5⟩ := Ik.Lo.six HT9.out.lo
 have hgl := HT9.out.lo.lt
 go_wp2_with fail
 clear g0 g1 g2 g3 g4 g5 hgl
 refine (Ye.remove_any HT9.out.lo.hp (n : Int)).mono ?_
 rintro _ v10 ⟨rfl, ha, ho⟩
 have HT10 := Lib.hid (HT9.out.next (HT9.out.lo.setH (p' := col p8 5 v9.heap.size) (fun _ hj => col_lt hj) ha ho more_col) (Step.part (by decide) ho))
 clear ha ho
 obtain ⟨p10, hp10⟩ : ∃ p10, p10 = col p8 5 v9.heap.size := ⟨_, rfl⟩
 rw [← hp10] at HT10
 clear hp10
 have HKX := (HT10.out.get (b := C + 1) (cs := emA x) (t := 42) (by simp)).1
 unfold emA at HKX
 obtain ⟨x0, x1, x2, x3, x4, x5, xf⟩ := six HKX
 have hxl := HKX.lt
 clear HKX xf
 go_wp2_with fail
 clear x0 x1 x2 x3 x4 x5 hxl
 have hxy := HT10.out.ys x (by simp)
 have hft := HOK.out.2.t; have hfv := HOK.out.2.v
 refine (Je.pcost_any x.e.k x.e.v.length x.b x.a x.A x.B x.e.t v10 hxy.t hfv hft HOK.out.2.e).mono ?_
 rw [HCV.out, HCN.out]
 rintro _ v11 ⟨rfl, b11⟩
 clear hxy hft hfv
 have HT11 := Lib.hid (HT10.out.below b11)
 clear b11
 obtain ⟨p11, hp11⟩ : ∃ p11, p11 = col p10 0 v10.heap.size := ⟨_, rfl⟩
 rw [← hp11] at HT11
 clear hp11
 obtain ⟨g0, g1, g2, g3, g4, g5⟩ := Ik.Lo.six HT11.out.lo
 have hgl := HT11.out.lo.lt
 go_wp2_with fail
 clear g0 g1 g2 g3 g4 g5 hgl
 refine (Je.rem_any HT11.out.lo.ac (cost x.e : Int)).mono ?_
 rintro _ v12 ⟨rfl, ha, ho⟩
 have HT12 := Lib.hid (HT11.out.next (HT11.out.lo.setC (p' := col p11 6 v11.heap.size) (fun _ hj => col_lt hj) ha ho more_col) (Step.part (by decide) ho))
 clear ha ho
 obtain ⟨p12, hp12⟩ : ∃ p12, p12 = col p11 6 v11.heap.size := ⟨_, rfl⟩
 rw [← hp12] at HT12
 clear hp12
 have HKX := (HT12.out.get (b := C + 1) (cs := emA x) (t := 42) (by simp)).1
 unfold emA at HKX
 obtain ⟨x0, x1, x2, x3, x4, x5, xf⟩ := six HKX
 have hxl := HKX.lt
 clear HKX xf
 go_wp2_with fail
 clear x0 x1 x2 x3 x4 x5 hxl
 refine (copied_any x v12 (fun v hb => (HT12.out.ys x (by simp)).below hb (Nat.le_refl _))).mono ?_
 rintro _ v13 ⟨y, hye, rfl, oy, b13⟩
 have HT13 := Lib.hid (HT12.out.below b13)
 have HOY := Lib.hid oy
 have HYE := Lib.hid hye
 have HPZ : Hid (∀ j, v12.heap.size ≤ j → col p12 0 v12.heap.size j = 0) := fun j hj => col_ge hj
 have z13 := b13.size
 clear b13 oy hye
 obtain ⟨p13, hp13⟩ : ∃ p13, p13 = col p12 0 v12.heap.size := ⟨_, rfl⟩
 rw [← hp13] at HT13 HPZ
 clear hp13
 have HRB := (HT13.out.get (b := C) (cs := zA) (t := 42) (by simp)).1
 have HPC := Lib.hid (HT13.out.get (b := C) (cs := zA) (t := 42) (by simp)).2
 unfold zA at HRB
 obtain ⟨r0, r1, r2, r3, r4, r5, rf⟩ := six HRB
 have rl := HRB.lt
 have rf0 := rf 0; have rf1 := rf 1; have rf2 := rf 2; have rf3 := rf 3; have rf4 := rf 4; have rf5 := rf 5
 clear HRB rf
 unfold emV
 go_wp2_with fail
 have HCL : C < v12.heap.size := (HT12.out.get (b := C) (cs := zA) (t := 42) (by simp)).1.lt
 have HO14 : Only (fun j => j = C) v13 (put6 v13 C (.string y.e.k) (.slice y.A y.e.v.length y.a) (.slice y.B y.e.t.length y.b) (.int .u64 y.e.d) (.int .u64 y.e.n) (.int .u64 y.e.s)) := put6_only v13 C _ _ _ _ _ _
 have HT14 := (HT13.out.sub (B' := []) (Y' := []) (fun _ h => by cases h) (fun _ h => by cases h)).put HPC.out HO14 (fun _ h => by cases h) (fun h => by have := HC.out; omega)
 have hCw := HC.out; have hz12 := HT12.out.st.on.size
 have HG : Gv p13 w (put6 v13 C (.string y.e.k) (.slice y.A y.e.v.length y.a) (.slice y.B y.e.t.length y.b) (.int .u64 y.e.d) (.int .u64 y.e.n) (.int .u64 y.e.s)) y := by
  have h1 := (HOY.out.only HO14 (fun j hj hf => by omega))
  exact ⟨h1.base hz12, h1.re.mono fun j hj => ⟨HPZ.out j hj, by omega⟩⟩
 obtain ⟨a1, a2, a3, a4, a5, a6, a7, a8⟩ := HC6.out
 refine bodyPost_ret (v := emV y) (by simp [results, Tryz.results64, go_sem, emV, r0, r1, r2, r3, r4, r5]) rfl ⟨p13, y, _, rfl, by rw [HYE.out], HG, HT14.st, ⟨HT14.lo, ?_, ?_, ?_⟩⟩
 ·have hR := HR1.out.1
  rewrite [← a7, ← a8] at hR
  dsimp only
  rewrite [a5, a6]
  with_reducible exact hR
 ·dsimp only
  rewrite [a4]; with_reducible exact HRC.out
 ·show (c6.m : Int) = s.e
  rewrite [a1]; exact HM.out
end
end Go.Proofs.YtlmljhnogmfcfaaGreat.Ie
namespace Go.Proofs.YtlmljhnogmfcfaaGreat.If
open Go.RowKit Ap Mi Nw Rg Ea Eb Ec Ed Ee El Ia Ib Ic Ik Ie

def holdPost (hs : Nat → Prop) (p : Nat → Nat) (w : World) (g : Nat) (s : Sx) : Ending → World → Prop := fun r w' => r = .returned (.tuple #[]) ∧ ∃ p' q' c' ns', Step p w p' w' ∧ Bt hs 0 0 p' w' g s ns' q' c'
theorem src_one (w : World) (x : Em) : Src Tryz.prog 6 30 (.slice (some ⟨w.heap.size, 0, none⟩) 1 1) 1 (emC x) (w.alloc (.cells (emA x) 42)) :=
 Nc.src_lit Tryz.underlying30 (emA x) 1 6 rfl (by rw [show (emA x).toList = emL [x] from by rw [emL_one]; rfl]; exact emL_one' _)
theorem full_len {hs : Nat → Prop} {cx cn : Int} {s : Sx} {ns : List Nat} {E : List Em} {a : Nm.St} {t : List (Tm.Cell Ta.Key)} {h : List Ya.Td} {k : Ja.Ac} (r : Rel hs cx cn s ns E a t h k) {M G : Nat} (hi : Nm.Inv M G a) (hf : a.fr = []) : E.length ≤ s.l.length := by
 have hc := hi.cnt
 have htl := hi.tl
 rw [hf] at hc
 have hall : ∀ n, n < E.length → n ∈ ns := fun n hn => by
  refine (r.am n hn).1 ?_
  have hn' : n < a.tk.length := by rw [htl, r.al]; exact hn
  rw [List.getElem?_eq_getElem hn']
  have := List.count_eq_length.1 (show a.tk.count true = a.tk.length by simpa using hc) _ (List.getElem_mem hn')
  rw [← this]
 have h1 := Yc.nd_int ((List.range E.length).map (fun (n : Nat) => (n : Int))) (iI ns) (by
  refine List.pairwise_map.2 (List.nodup_range.imp ?_)
  intro x y hxy e; omega) (fun z hz => by
  obtain ⟨n, hn, rfl⟩ := List.mem_map.1 hz
  exact mem_iI.2 (hall n (List.mem_range.1 hn)))
 rw [List.length_map, List.length_range] at h1
 rw [r.len]; unfold iI at h1; simpa using h1
section
variable {hs : Nat → Prop} {p : Nat → Nat} {w : World} {g : Nat} {s : Sx} {ns : List Nat} {q : Ptr} {c : Ct}
set_option maxRecDepth 100000 in
set_option maxHeartbeats 4000000 in
theorem hold_old {x : Em} (h : Bt hs (cost x.e : Int) 1 p w g s ns q c) (hx : okE x.e ∧ Fit x.e) (hxr : RE (fun j => p j = 8 ∧ j < w.heap.size) w x) (hk : ∀ y ∈ s.l, y.k ≠ x.e.k) (hu : (used s.l : Int) + (cost x.e : Int) ≤ s.b) (hl : (s.l.length : Int) + 1 ≤ s.e) (hsn : ∀ n, hs n) (hno : ∀ y, some (kb x.e.k, y) ∉ c.t) {n : Nat} {G0 : Int} {E1 : List Em} {a1 : Nm.St} (t1 : Nm.tkS c.m c.a = a1) (t2 : Nm.tkN c.m c.a = (n : Int)) (t3 : Nm.tkG c.m c.a = G0) (t4 : Nm.tkE c.m c.a = 0) (hnn : n ∉ ns) (hal : a1.gens.length = E1.length) (hat : a1.tk[n]? = some true) (hao : ∀ m, m < c.E.length → m ≠ n → a1.tk[m]? = c.a.tk[m]?) (hEE : (n < c.E.length ∧ E1 = c.E) ∨ (n = c.E.length ∧ E1 = c.E ++ [zeroM])) (hE1 : E1 = c.E) (hnE : n < c.E.length) :
  Calls Tryz.prog 70 #[.pointer (some ⟨g, 0, none⟩), emV x] w (holdPost hs p w g { s with l := s.l ++ [x.e] }) := by
 have hbig := h.rel.big
 have HX := Lib.hid hx
 have HMM := Lib.hid h.m
 have HB := Lib.hid h
 have hee : (E1.length : Int) ≤ s.e ∧ n < E1.length ∧ (n : Int) < 1048576 := by
  have := h.rel.ok.bb.2.2.2; have := h.rel.le
  rw [hE1]; omega
 have HEE := Lib.hid hee
 have HPU : Hid (Tf.Puts c.sd c.t (kb x.e.k) (n : Int) (To.putT (Ta.hom c.sd) c.t (kb x.e.k) n) 0) := Or.inr (Or.inr ⟨by rw [kb_ok]; simpa using hx.1.1, ⟨n, rfl, rfl⟩, hno, rfl⟩)
 have HPG := Lib.hid (To.put_good h.lo.tb.good hno n)
 obtain ⟨T, hT⟩ : ∃ T, T = To.putT (Ta.hom c.sd) c.t (kb x.e.k) n := ⟨_, rfl⟩
 rw [← hT] at HPU HPG
 have HLM : Hid (c.t.length ≤ 8388608) := h.lo.tb.pl.lim
 have HCN : Hid (Tm.cnt c.t < 1048576) := by show _ < _; have := h.rel.tc; have := h.rel.len; have := h.rel.ok.bb.2.2.2; omega
 have HR1 := Lib.hid (h.rel.hold hx hk hu hl (n := n) (E1 := E1) (a' := a1) (t' := T) (hsn n) hEE hnn hee.1 hal hat hao HPG.out.2.2.2 HPG.out.2.2.1)
 have HRC : Hid (Ua.addT c.r (n : Int) = iI (ns ++ [n])) := by show _ = _; rw [h.r]; unfold Ua.addT; rw [if_pos ⟨⟨by omega, hee.2.2⟩, fun e => hnn (mem_iI.1 e)⟩]; unfold iI; rw [List.map_append]; rfl
 have HTD : Hid (Yb.Tm x.e.d) := hx.2.d
 have HTK : Hid (∀ v, Na.Are (fun j => p j = 2 ∧ j < w.heap.size) v q.ga c.m 1 c.a → Calls Tryz.prog 105 #[.pointer (some ⟨q.ga, 0, none⟩)] v (fun e w' => e = .returned (.tuple #[.agg #[.int .i64 (n : Int), .int .i64 G0], .int .i64 0]) ∧ Na.Are (More (fun j => p j = 2 ∧ j < w.heap.size) v) w' q.ga c.m 1 a1 ∧ Only (fun j => p j = 2 ∧ j < w.heap.size) v w')) := fun v hv => by have := Nd.take_any hv; unfold Nd.takePost at this; rw [t1, t2, t3, t4] at this; exact this
 obtain ⟨g0, g1, g2, g3, g4, g5⟩ := Ik.Lo.six h.lo
 have hgl := h.lo.lt
 obtain ⟨C, hC⟩ : ∃ C, C = w.heap.size := ⟨_, rfl⟩
 obtain ⟨v1, hv1⟩ : ∃ v1, v1 = w.alloc (.cells (emA x) 42) := ⟨_, rfl⟩
 have HT1 : Hid (Tk p w [(C, emA x, 42)] [x] (col p 0 w.heap.size) v1 g q c) := by
  have hb : Below w.heap.size w v1 := by rw [hv1]; exact bnew _ _
  exact (((Tk.start h.lo).addY hxr).below hb).add (by rw [hv1, hC]; exact Blk.new w _ _) (col_ge (by omega))
 have HA1 := Lib.hid (show Na.Are (fun j => p j = 2 ∧ j < w.heap.size) v1 q.ga c.m 1 c.a by rw [hv1]; exact h.lo.ar.tight.below (bnew _ _) (Nat.le_refl _))
 obtain ⟨p1, hp1⟩ : ∃ p1, p1 = col p 0 w.heap.size := ⟨_, rfl⟩
 have HP1 : Hid (∀ j, p j = 2 ∧ j < w.heap.size → p1 j = 2) := fun j hj => by rw [hp1, col_lt hj.2]; exact hj.1
 rw [← hp1] at HT1
 have HC := Lib.hid hC
 have HEL := Lib.hid hE1
 unfold holdPost
 unfold emV
 unfold emA at hv1
 clear h hx hk hu hl hno hT hp1 g1 g2 g3 g4 g5 hxr t1 t2 t3 t4 hal hat hao hEE hnn hee hE1
 go_enter Tryz.func70, Tryz.ntmps70
 go_wp2_with fail
 rw [← hv1, ← hC]
 clear hv1 hC g0 hgl
 refine (HTK.out v1 HA1.out).mono ?_
 rintro _ v2 ⟨rfl, ha, ho⟩
 have ho2 : Only (fun j => p1 j = 2) v1 v2 := ho.mono fun j _ hj => HP1.out j hj
 have HT2 := Lib.hid (HT1.out.next (HT1.out.lo.setA (p' := col p1 2 v1.heap.size) (fun _ hj => col_lt hj) ha ho2 (fun j hj hm => more_col j hj (hm.elim (fun e => Or.inl (HP1.out j e)) Or.inr))) (Step.part (by decide) ho2))
 clear ha ho ho2 HA1 HTK
 obtain ⟨p2, hp2⟩ : ∃ p2, p2 = col p1 2 v1.heap.size := ⟨_, rfl⟩
 rw [← hp2] at HT2
 clear hp2
 obtain ⟨R, hR⟩ : ∃ R, R = v2.heap.size := ⟨_, rfl⟩
 obtain ⟨v3, hv3⟩ : ∃ v3, v3 = v2.alloc (.cells #[.int .i64 (n : Int), .int .i64 G0] 149) := ⟨_, rfl⟩
 have HT3 : Hid (Tk p w [(R, #[.int .i64 (n : Int), .int .i64 G0], 149), (C, emA x, 42)] [x] (col p2 0 v2.heap.size) v3 g q { c with a := a1 }) := by
  have hb : Below v2.heap.size v2 v3 := by rw [hv3]; exact bnew _ _
  exact (HT2.out.below hb).add (by rw [hv3, hR]; exact Blk.new _ _ _) (col_ge (by omega))
 obtain ⟨p3, hp3⟩ : ∃ p3, p3 = col p2 0 v2.heap.size := ⟨_, rfl⟩
 rw [← hp3] at HT3
 clear hp3
 go_wp2_with fail
 rw [← hv3, ← hR]
 clear hv3 hR
 obtain ⟨g0, g1, g2, g3, g4, g5⟩ := Ik.Lo.six HT3.out.lo
 have hgl := HT3.out.lo.lt
 obtain ⟨r0, r1, _, _⟩ := (HT3.out.get (b := R) (cs := #[.int .i64 (n : Int), .int .i64 G0]) (t := 149) (by simp)).1.two
 have hrl := (HT3.out.get (b := R) (cs := #[.int .i64 (n : Int), .int .i64 G0]) (t := 149) (by simp)).1.lt
 simp only at g1
 have hq1 : ((n : Int) == (c.E.length : Int)) = false := by rw [beq_eq_false_iff_ne]; omega
 go_quiet (fail)
 have HT4 := Lib.hid (HT3.out.drewN nq)
 obtain ⟨v5, hv5⟩ : ∃ v5, v5 = v3.drewN nq := ⟨_, rfl⟩
 clear g0 g1 g2 g3 g4 g5 hgl
 clear r0 r1 hrl
 have HT5 : Hid (Tk p w [(R, #[.int .i64 (n : Int), .int .i64 G0], 149), (C, emA x, 42)] [x] p3 v5 g q { c with a := a1, E := E1 }) := by rw [HEL.out, hv5]; exact HT4.out
 go_wp2_with fail
 rw [← hv5]
 clear hv5
 obtain ⟨p5, hp5⟩ : ∃ p5, p5 = p3 := ⟨_, rfl⟩
 rw [← hp5] at HT5
 clear hp5
 obtain ⟨q6, hq6⟩ : ∃ q6 : Ptr, q6 = q := ⟨_, rfl⟩
 rw [← hq6] at HT5
 clear hq6
 obtain ⟨c6, hc6⟩ : ∃ c6 : Ct, c6 = { c with a := a1, E := E1 } := ⟨_, rfl⟩
 rw [← hc6] at HT5
 have HC6 : Hid (c6.m = c.m ∧ c6.sd = c.sd ∧ c6.t = c.t ∧ c6.r = c.r ∧ c6.h = c.h ∧ c6.k = c.k ∧ c6.E = E1 ∧ c6.a = a1) := by show _ ∧ _; rw [hc6]; exact ⟨rfl, rfl, rfl, rfl, rfl, rfl, rfl, rfl⟩
 clear hc6
 have hnl : n < c6.E.length := by rw [HC6.out.2.2.2.2.2.2.1]; exact HEE.out.2.1
 have hbig6 : c6.E.length ≤ 1048576 := by rw [HC6.out.2.2.2.2.2.2.1]; have := HEE.out.1; have := HB.out.rel.ok.bb.2.2.2; omega
 have i1 : (n : Int) < (c6.E.length : Int) := by omega
 obtain ⟨b, o, hA, hb, hpb, _, _, _, _, _, _, _⟩ := HT5.out.lo.at_ (n := n) hnl
 obtain ⟨g0, g1, g2, g3, g4, g5⟩ := Ik.Lo.six HT5.out.lo
 have hgl := HT5.out.lo.lt
 have HKX := (HT5.out.get (b := C) (cs := emA x) (t := 42) (by simp)).1
 unfold emA at HKX
 obtain ⟨x0, x1, x2, x3, x4, x5, xf⟩ := six HKX
 have hxl := HKX.lt
 clear HKX xf
 obtain ⟨r0, r1, _, _⟩ := (HT5.out.get (b := R) (cs := #[.int .i64 (n : Int), .int .i64 G0]) (t := 149) (by simp)).1.two
 have hrl := (HT5.out.get (b := R) (cs := #[.int .i64 (n : Int), .int .i64 G0]) (t := 149) (by simp)).1.lt
 rw [hA] at g1
 have HD := Lib.hid HT5.out.drew
 have hS0 : v5.drew.cell? ⟨g, 1, none⟩ = some (.slice (some ⟨b, o, none⟩) c6.E.length q6.c) ∧ v5.drew.cell? ⟨R, 0, none⟩ = some (.int .i64 (n : Int)) ∧ v5.drew.cell? ⟨C, 0, none⟩ = some (.string x.e.k) ∧ v5.drew.cell? ⟨C, 1, none⟩ = some (.slice x.A x.e.v.length x.a) ∧ v5.drew.cell? ⟨C, 2, none⟩ = some (.slice x.B x.e.t.length x.b) ∧ v5.drew.cell? ⟨C, 3, none⟩ = some (.int .u64 x.e.d) ∧ v5.drew.cell? ⟨C, 4, none⟩ = some (.int .u64 x.e.n) ∧ v5.drew.cell? ⟨C, 5, none⟩ = some (.int .u64 x.e.s) := ⟨g1, r0, x0, x1, x2, x3, x4, x5⟩
 clear g0 g1 g2 g3 g4 g5 hgl
 clear x0 x1 x2 x3 x4 x5 hxl
 clear r0 r1 hrl
 refine wp_region_noPanic ?_
 refine wp_region_G 8 (fun v => v.cell? ⟨g, 1, none⟩ = some (.slice (some ⟨b, o, none⟩) c6.E.length q6.c) ∧ v.cell? ⟨R, 0, none⟩ = some (.int .i64 (n : Int)) ∧ v.cell? ⟨C, 0, none⟩ = some (.string x.e.k) ∧ v.cell? ⟨C, 1, none⟩ = some (.slice x.A x.e.v.length x.a) ∧ v.cell? ⟨C, 2, none⟩ = some (.slice x.B x.e.t.length x.b) ∧ v.cell? ⟨C, 3, none⟩ = some (.int .u64 x.e.d) ∧ v.cell? ⟨C, 4, none⟩ = some (.int .u64 x.e.n) ∧ v.cell? ⟨C, 5, none⟩ = some (.int .u64 x.e.s)) (by kernel_rfl) ?_
 obtain ⟨u6, hu6⟩ : ∃ u6, u6 = v5.drew := ⟨_, rfl⟩
 rw [← hu6] at hS0 HD ⊢
 clear hu6
 have HT6 := HD
 clear HD
 obtain ⟨b2, o2, hA2, hb2, _, e0, e1, e2, e3, e4, e5, ef⟩ := HT6.out.lo.at_ (n := n) hnl
 rw [hA] at hA2
 injection hA2 with hA2
 injection hA2 with hbb hoo
 subst hbb; subst hoo
 have ef0 := ef 0 (by omega); have ef1 := ef 1 (by omega); have ef2 := ef 2 (by omega); have ef3 := ef 3 (by omega); have ef4 := ef 4 (by omega); have ef5 := ef 5 (by omega)
 rw [Nat.add_zero] at ef0
 refine Rg.tg 0 (some 32) (v := ?_) rfl (by kernel_rfl) (fun _ _ _ h => h) (by rfl) (hS0) ?_ ?_
 rotate_left
 ·intro w hSw; go_simp; first | done | with_reducible rfl
 try simp only [Ap.sc]
 refine Rg.tg 1 (some 33) (v := ?_) rfl (by kernel_rfl) (fun _ _ _ h => h) (by rfl) (hS0) ?_ ?_
 rotate_left
 ·intro w hSw; go_simp; first | done | with_reducible rfl
 try simp only [Ap.sc]
 refine Rg.tg 2 (some 34) (v := ?_) rfl (by kernel_rfl) (fun _ _ _ h => h) (by rfl) (hS0) ?_ ?_
 rotate_left
 ·intro w hSw; go_simp; first | done | with_reducible rfl
 try simp only [Ap.sc]
 refine Rg.tg 3 (some 35) (v := ?_) rfl (by kernel_rfl) (fun _ _ _ h => h) (by rfl) (hS0) ?_ ?_
 rotate_left
 ·intro w hSw; go_simp; first | done | with_reducible rfl
 try simp only [Ap.sc]
 refine Rg.tg 4 (some 36) (v := ?_) rfl (by kernel_rfl) (fun _ _ _ h => h) (by rfl) (hS0) ?_ ?_
 rotate_left
 ·intro w hSw; go_simp; first | done | with_reducible rfl
 try simp only [Ap.sc]
 refine Rg.tg 5 (some 37) (v := ?_) rfl (by kernel_rfl) (fun _ _ _ h => h) (by rfl) (hS0) ?_ ?_
 rotate_left
 ·intro w hSw; go_simp; first | done | with_reducible rfl
 try simp only [Ap.sc]
 refine Rg.tg 6 (some 38) (v := ?_) rfl (by kernel_rfl) (fun _ _ _ h => h) (by rfl) (hS0) ?_ ?_
 rotate_left
 ·intro w hSw; go_simp; first | done | with_reducible rfl
 try simp only [Ap.sc]
 refine Rg.tg 7 (some 39) (v := ?_) rfl (by kernel_rfl) (fun _ _ _ h => h) (by rfl) (hS0) ?_ ?_
 rotate_left
 ·intro w hSw; go_simp; first | done | with_reducible rfl
 try simp only [Ap.sc]
 refine wpAnyG_ready (rs := [8]) (by kernel_rfl) (by simp) ?_
 refine AllReadyG.cons (o := ⟨none, _, _, _, _, _⟩) rfl (fun K hK => ?_) AllReadyG.nil
 go_simp
 refine hK.out _ _ (fun h => absurd h (by omega)) ?_
 clear hK K
 refine wpAnyG_done (by kernel_rfl) ?_ _
 refine NoPanic.normal ?_
 obtain ⟨v7, hv7⟩ : ∃ v7, v7 = (((((u6.setCell ⟨b, o + n * 6, none⟩ (.string x.e.k)).setCell ⟨b, o + n * 6 + 1, none⟩ (.slice x.A x.e.v.length x.a)).setCell ⟨b, o + n * 6 + 2, none⟩ (.slice x.B x.e.t.length x.b)).setCell ⟨b, o + n * 6 + 3, none⟩ (.int .u64 x.e.d)).setCell ⟨b, o + n * 6 + 4, none⟩ (.int .u64 x.e.n)).setCell ⟨b, o + n * 6 + 5, none⟩ (.int .u64 x.e.s) := ⟨_, rfl⟩
 have HT7 : Hid (Tk p w [(R, #[.int .i64 (n : Int), .int .i64 G0], 149), (C, emA x, 42)] [x] p5 v7 g q6 { c6 with E := c6.E.set n x }) := by
  have ho : Only (fun j => j = b) u6 v7 := by rw [hv7]; exact ((((((Only.refl (fun j => j = b) u6).put (ad := ⟨b, o + n * 6, none⟩) rfl _).put (ad := ⟨b, o + n * 6 + 1, none⟩) rfl _).put (ad := ⟨b, o + n * 6 + 2, none⟩) rfl _).put (ad := ⟨b, o + n * 6 + 3, none⟩) rfl _).put (ad := ⟨b, o + n * 6 + 4, none⟩) rfl _).put (ad := ⟨b, o + n * 6 + 5, none⟩) rfl _
  have hM := HT6.out.lo.en
  rw [hA] at hM
  have hM6 := put6_row hM (k := n) hnl x
  have ho7 : Only (fun j => p5 j = 1 ∨ p5 j = 7) u6 v7 := ho.mono fun j _ e => by rw [e]; exact Or.inr hpb
  have hgb : g ≠ b := fun e => by have := HT6.out.lo.pg; rw [e, hpb] at this; cases this
  refine HT6.out.next (HT6.out.lo.setE (E := c6.E.set n x) (A := q6.A) (n := q6.c) ?_ ?_ ho7 (fun _ _ => rfl) HT6.out.lo.pe ?_) (Step.two ho7 (fun _ _ => rfl))
  ·rw [List.length_set]; exact HT6.out.lo.bk.only ho hgb
  ·rw [hA, List.length_set, hv7]; exact hM6
  ·intro y hy
   rcases List.mem_or_eq_of_mem_set hy with hy | hy
   ·exact HT6.out.lo.re y hy
   ·rw [hy]; exact HT6.out.ys x (by simp)
 rw [← hv7]
 clear hv7 e0 e1 e2 e3 e4 e5 ef ef0 ef1 ef2 ef3 ef4 ef5 hA hb hpb hb2 hS0
 obtain ⟨c7, hc7⟩ : ∃ c7 : Ct, c7 = { c6 with E := c6.E.set n x } := ⟨_, rfl⟩
 rw [← hc7] at HT7
 have HC7 : Hid (c7.m = c.m ∧ c7.sd = c.sd ∧ c7.t = c.t ∧ c7.r = c.r ∧ c7.h = c.h ∧ c7.k = c.k ∧ c7.E = E1.set n x ∧ c7.a = a1) := by obtain ⟨z1, z2, z3, z4, z5, z6, z7, z8⟩ := HC6.out; show _ ∧ _; rw [hc7]; exact ⟨z1, z2, z3, z4, z5, z6, by show c6.E.set n x = _; rw [z7], z8⟩
 clear hc7
 obtain ⟨g0, g1, g2, g3, g4, g5⟩ := Ik.Lo.six HT7.out.lo
 have hgl := HT7.out.lo.lt
 have HKX := (HT7.out.get (b := C) (cs := emA x) (t := 42) (by simp)).1
 unfold emA at HKX
 obtain ⟨x0, x1, x2, x3, x4, x5, xf⟩ := six HKX
 have hxl := HKX.lt
 clear HKX xf
 obtain ⟨r0, r1, _, _⟩ := (HT7.out.get (b := R) (cs := #[.int .i64 (n : Int), .int .i64 G0]) (t := 149) (by simp)).1.two
 have hrl := (HT7.out.get (b := R) (cs := #[.int .i64 (n : Int), .int .i64 G0]) (t := 149) (by simp)).1.lt
 go_wp2_with fail
 have HD := Lib.hid HT7.out.drew
 have hS0 : v7.drew.cell? ⟨g, 2, none⟩ = some (.pointer (some ⟨q6.gt, 0, none⟩)) ∧ v7.drew.cell? ⟨C, 0, none⟩ = some (.string x.e.k) ∧ v7.drew.cell? ⟨R, 0, none⟩ = some (.int .i64 (n : Int)) := ⟨g2, x0, r0⟩
 clear g0 g1 g2 g3 g4 g5 hgl
 clear x0 x1 x2 x3 x4 x5 hxl
 clear r0 r1 hrl
 refine wp_region_noPanic ?_
 refine wp_region_G 8 (fun v => v.cell? ⟨g, 2, none⟩ = some (.pointer (some ⟨q6.gt, 0, none⟩)) ∧ v.cell? ⟨C, 0, none⟩ = some (.string x.e.k) ∧ v.cell? ⟨R, 0, none⟩ = some (.int .i64 (n : Int))) (by kernel_rfl) ?_
 obtain ⟨u8, hu8⟩ : ∃ u8, u8 = v7.drew := ⟨_, rfl⟩
 rw [← hu8] at hS0 HD ⊢
 clear hu8
 have HT8 := HD
 clear HD
 refine Rg.tg 0 (some 40) (v := ?_) rfl (by kernel_rfl) (fun _ _ _ h => h) (by rfl) (hS0) ?_ ?_
 rotate_left
 ·intro w hSw; go_simp; first | done | with_reducible rfl
 try simp only [Ap.sc]
 refine Rg.tg 1 (some 41) (v := ?_) rfl (by kernel_rfl) (fun _ _ _ h => h) (by rfl) (hS0) ?_ ?_
 rotate_left
 ·intro w hSw; go_simp; first | done | with_reducible rfl
 try simp only [Ap.sc]
 refine Rg.tg 2 (some 42) (v := ?_) rfl (by kernel_rfl) (fun _ _ _ h => h) (by rfl) (hS0) ?_ ?_
 rotate_left
 ·intro w hSw; go_simp; first | done | with_reducible rfl
 try simp only [Ap.sc]
 refine Rg.tg 3 (some 43) (v := ?_) rfl (by kernel_rfl) (fun _ _ _ h => h) (by rfl) (hS0) ?_ ?_
 rotate_left
 ·intro w hSw; go_simp; first | done | with_reducible rfl
 try simp only [Ap.sc]
 refine Rg.tg 4 (some 44) (v := ?_) rfl (by kernel_rfl) (fun _ _ _ h => h) (by rfl) (hS0) ?_ ?_
 rotate_left
 ·intro w hSw; go_simp; first | done | with_reducible rfl
 try simp only [Ap.sc]
 refine Rg.tg 5 (some 45) (v := ?_) rfl (by kernel_rfl) (fun _ _ _ h => h) (by rfl) (hS0) ?_ ?_
 rotate_left
 ·intro w hSw; go_simp; first | done | with_reducible rfl
 try simp only [Ap.sc]
 refine Rg.tg 6 (some 46) (v := ?_) rfl (by kernel_rfl) (fun _ _ _ h => h) (by rfl) (hS0) ?_ ?_
 rotate_left
 ·intro w hSw; go_simp; first | done | with_reducible rfl
 try simp only [Ap.sc]
 refine Rg.tg 7 (some 47) (v := ?_) rfl (by kernel_rfl) (fun _ _ _ h => h) (by rfl) (hS0) ?_ ?_
 rotate_left
 ·intro w hSw; go_simp; first | done | with_reducible rfl
 try simp only [Ap.sc]
 refine wpAnyG_ready (rs := [8]) (by kernel_rfl) (by simp) ?_
 refine AllReadyG.cons (o := ⟨some 48, _, _, _, _, _⟩) rfl (fun K hK => ?_) AllReadyG.nil
 go_simp
 have HPA := Pf.put_any (c := c.t) (seed := c.sd) (by have := HT8.out.lo.tb; rw [HC7.out.2.2.1, HC7.out.2.1] at this; exact this) (kb x.e.k) (by rw [kb_len]; have := HX.out.2.k; omega) HLM.out HCN.out (by have := HEE.out.2.2; omega) HPU.out
 rw [kb_str] at HPA
 refine HPA.mono ?_
 rintro _ v9 ⟨rfl, ha, ho⟩
 clear HPA
 have HT9 := Lib.hid (HT8.out.next (HT8.out.lo.setT (p' := col p5 3 u8.heap.size) (fun _ hj => col_lt hj) (by rw [HC7.out.2.1]; exact ha) ho more_col) (Step.part (by decide) ho))
 clear ha ho
 refine hK.out _ _ (fun h => absurd h (by omega)) ?_
 clear hK K
 refine wpAnyG_done (by kernel_rfl) ?_ _
 refine NoPanic.normal ?_
 obtain ⟨p9, hp9⟩ : ∃ p9, p9 = col p5 3 u8.heap.size := ⟨_, rfl⟩
 rw [← hp9] at HT9
 clear hp9 hS0
 obtain ⟨g0, g1, g2, g3, g4, g5⟩ := Ik.Lo.six HT9.out.lo
 have hgl := HT9.out.lo.lt
 obtain ⟨r0, r1, _, _⟩ := (HT9.out.get (b := R) (cs := #[.int .i64 (n : Int), .int .i64 G0]) (t := 149) (by simp)).1.two
 have hrl := (HT9.out.get (b := R) (cs := #[.int .i64 (n : Int), .int .i64 G0]) (t := 149) (by simp)).1.lt
 go_wp2_with fail
 have HD := Lib.hid HT9.out.drew
 have hS0 : v9.drew.cell? ⟨g, 3, none⟩ = some (.pointer (some ⟨q6.gr, 0, none⟩)) ∧ v9.drew.cell? ⟨R, 0, none⟩ = some (.int .i64 (n : Int)) := ⟨g3, r0⟩
 clear g0 g1 g2 g3 g4 g5 hgl
 clear r0 r1 hrl
 refine wp_region_noPanic ?_
 refine wp_region_G 6 (fun v => v.cell? ⟨g, 3, none⟩ = some (.pointer (some ⟨q6.gr, 0, none⟩)) ∧ v.cell? ⟨R, 0, none⟩ = some (.int .i64 (n : Int))) (by kernel_rfl) ?_
 obtain ⟨u10, hu10⟩ : ∃ u10, u10 = v9.drew := ⟨_, rfl⟩
 rw [← hu10] at hS0 HD ⊢
 clear hu10
 have HT10 := HD
 clear HD
 refine Rg.tg 0 (some 49) (v := ?_) rfl (by kernel_rfl) (fun _ _ _ h => h) (by rfl) (hS0) ?_ ?_
 rotate_left
 ·intro w hSw; go_simp; first | done | with_reducible rfl
 try simp only [Ap.sc]
 refine Rg.tg 1 (some 50) (v := ?_) rfl (by kernel_rfl) (fun _ _ _ h => h) (by rfl) (hS0) ?_ ?_
 rotate_left
 ·intro w hSw; go_simp; first | done | with_reducible rfl
 try simp only [Ap.sc]
 refine Rg.tg 2 (some 51) (v := ?_) rfl (by kernel_rfl) (fun _ _ _ h => h) (by rfl) (hS0) ?_ ?_
 rotate_left
 ·intro w hSw; go_simp; first | done | with_reducible rfl
 try simp only [Ap.sc]
 refine Rg.tg 3 (some 52) (v := ?_) rfl (by kernel_rfl) (fun _ _ _ h => h) (by rfl) (hS0) ?_ ?_
 rotate_left
 ·intro w hSw; go_simp; first | done | with_reducible rfl
 try simp only [Ap.sc]
 refine Rg.tg 4 (some 53) (v := ?_) rfl (by kernel_rfl) (fun _ _ _ h => h) (by rfl) (hS0) ?_ ?_
 rotate_left
 ·intro w hSw; go_simp; first | done | with_reducible rfl
 try simp only [Ap.sc]
 refine Rg.tg 5 (some 54) (v := ?_) rfl (by kernel_rfl) (fun _ _ _ h => h) (by rfl) (hS0) ?_ ?_
 rotate_left
 ·intro w hSw; go_simp; first | done | with_reducible rfl
 try simp only [Ap.sc]
 refine wpAnyG_ready (rs := [6]) (by kernel_rfl) (by simp) ?_
 refine AllReadyG.cons (o := ⟨some 55, _, _, _, _, _⟩) rfl (fun K hK => ?_) AllReadyG.nil
 go_simp
 refine (Ue.add_any HT10.out.lo.rc (n : Int)).mono ?_
 rintro _ v11 ⟨rfl, ha, ho⟩
 have HT11 := Lib.hid (HT10.out.next (HT10.out.lo.setR (p' := col p9 4 u10.heap.size) (fun _ hj => col_lt hj) ha ho more_col) (Step.part (by decide) ho))
 clear ha ho
 refine hK.out _ _ (fun h => absurd h (by omega)) ?_
 clear hK K
 refine wpAnyG_done (by kernel_rfl) ?_ _
 refine NoPanic.normal ?_
 obtain ⟨p11, hp11⟩ : ∃ p11, p11 = col p9 4 u10.heap.size := ⟨_, rfl⟩
 rw [← hp11] at HT11
 clear hp11 hS0
 obtain ⟨g0, g1, g2, g3, g4, g5⟩ := Ik.Lo.six HT11.out.lo
 have hgl := HT11.out.lo.lt
 obtain ⟨r0, r1, _, _⟩ := (HT11.out.get (b := R) (cs := #[.int .i64 (n : Int), .int .i64 G0]) (t := 149) (by simp)).1.two
 have hrl := (HT11.out.get (b := R) (cs := #[.int .i64 (n : Int), .int .i64 G0]) (t := 149) (by simp)).1.lt
 have HKX := (HT11.out.get (b := C) (cs := emA x) (t := 42) (by simp)).1
 unfold emA at HKX
 obtain ⟨x0, x1, x2, x3, x4, x5, xf⟩ := six HKX
 have hxl := HKX.lt
 clear HKX xf
 go_wp2_with fail
 have HD := Lib.hid HT11.out.drew
 have hS0 : v11.drew.cell? ⟨g, 4, none⟩ = some (.pointer (some ⟨q6.gh, 0, none⟩)) ∧ v11.drew.cell? ⟨R, 0, none⟩ = some (.int .i64 (n : Int)) ∧ v11.drew.cell? ⟨C, 3, none⟩ = some (.int .u64 x.e.d) := ⟨g4, r0, x3⟩
 clear g0 g1 g2 g3 g4 g5 hgl
 clear r0 r1 hrl
 clear x0 x1 x2 x3 x4 x5 hxl
 refine wp_region_noPanic ?_
 refine wp_region_G 8 (fun v => v.cell? ⟨g, 4, none⟩ = some (.pointer (some ⟨q6.gh, 0, none⟩)) ∧ v.cell? ⟨R, 0, none⟩ = some (.int .i64 (n : Int)) ∧ v.cell? ⟨C, 3, none⟩ = some (.int .u64 x.e.d)) (by kernel_rfl) ?_
 obtain ⟨u12, hu12⟩ : ∃ u12, u12 = v11.drew := ⟨_, rfl⟩
 rw [← hu12] at hS0 HD ⊢
 clear hu12
 have HT12 := HD
 clear HD
 refine Rg.tg 0 (some 56) (v := ?_) rfl (by kernel_rfl) (fun _ _ _ h => h) (by rfl) (hS0) ?_ ?_
 rotate_left
 ·intro w hSw; go_simp; first | done | with_reducible rfl
 try simp only [Ap.sc]
 refine Rg.tg 1 (some 57) (v := ?_) rfl (by kernel_rfl) (fun _ _ _ h => h) (by rfl) (hS0) ?_ ?_
 rotate_left
 ·intro w hSw; go_simp; first | done | with_reducible rfl
 try simp only [Ap.sc]
 refine Rg.tg 2 (some 58) (v := ?_) rfl (by kernel_rfl) (fun _ _ _ h => h) (by rfl) (hS0) ?_ ?_
 rotate_left
 ·intro w hSw; go_simp; first | done | with_reducible rfl
 try simp only [Ap.sc]
 refine Rg.tg 3 (some 59) (v := ?_) rfl (by kernel_rfl) (fun _ _ _ h => h) (by rfl) (hS0) ?_ ?_
 rotate_left
 ·intro w hSw; go_simp; first | done | with_reducible rfl
 try simp only [Ap.sc]
 refine Rg.tg 4 (some 60) (v := ?_) rfl (by kernel_rfl) (fun _ _ _ h => h) (by rfl) (hS0) ?_ ?_
 rotate_left
 ·intro w hSw; go_simp; first | done | with_reducible rfl
 try simp only [Ap.sc]
 refine Rg.tg 5 (some 61) (v := ?_) rfl (by kernel_rfl) (fun _ _ _ h => h) (by rfl) (hS0) ?_ ?_
 rotate_left
 ·intro w hSw; go_simp; first | done | with_reducible rfl
 try simp only [Ap.sc]
 refine Rg.tg 6 (some 62) (v := ?_) rfl (by kernel_rfl) (fun _ _ _ h => h) (by rfl) (hS0) ?_ ?_
 rotate_left
 ·intro w hSw; go_simp; first | done | with_reducible rfl
 try simp only [Ap.sc]
 refine Rg.tg 7 (some 63) (v := ?_) rfl (by kernel_rfl) (fun _ _ _ h => h) (by rfl) (hS0) ?_ ?_
 rotate_left
 ·intro w hSw; go_simp; first | done | with_reducible rfl
 try simp only [Ap.sc]
 refine wpAnyG_ready (rs := [8]) (by kernel_rfl) (by simp) ?_
 refine AllReadyG.cons (o := ⟨some 64, _, _, _, _, _⟩) rfl (fun K hK => ?_) AllReadyG.nil
 go_simp
 refine (Ye.put_any HT12.out.lo.hp (n : Int) x.e.d HTD.out).mono ?_
 rintro _ v13 ⟨rfl, ha, ho⟩
 have HT13 := Lib.hid (HT12.out.next (HT12.out.lo.setH (p' := col p11 5 u12.heap.size) (fun _ hj => col_lt hj) ha ho more_col) (Step.part (by decide) ho))
 clear ha ho
 refine hK.out _ _ (fun h => absurd h (by omega)) ?_
 clear hK K
 refine wpAnyG_done (by kernel_rfl) ?_ _
 refine NoPanic.normal ?_
 clear hS0
 go_wp2_with fail
 go_end0
 obtain ⟨z1, z2, z3, z4, z5, z6, z7, z8⟩ := HC7.out
 refine ⟨rfl, _, HT13.out.st, q6, _, ns ++ [n], HT13.out.lo, ?_, ?_, ?_⟩
 ·dsimp only
  rewrite [z5, z6, z7, z8]
  with_reducible exact HR1.out
 ·dsimp only
  rewrite [z4]; with_reducible exact HRC.out
 ·dsimp only
  rewrite [z1]; with_reducible exact HMM.out
set_option maxRecDepth 100000 in
set_option maxHeartbeats 4000000 in
theorem hold_new {x : Em} (h : Bt hs (cost x.e : Int) 1 p w g s ns q c) (hx : okE x.e ∧ Fit x.e) (hxr : RE (fun j => p j = 8 ∧ j < w.heap.size) w x) (hk : ∀ y ∈ s.l, y.k ≠ x.e.k) (hu : (used s.l : Int) + (cost x.e : Int) ≤ s.b) (hl : (s.l.length : Int) + 1 ≤ s.e) (hsn : ∀ n, hs n) (hno : ∀ y, some (kb x.e.k, y) ∉ c.t) {n : Nat} {G0 : Int} {E1 : List Em} {a1 : Nm.St} (t1 : Nm.tkS c.m c.a = a1) (t2 : Nm.tkN c.m c.a = (n : Int)) (t3 : Nm.tkG c.m c.a = G0) (t4 : Nm.tkE c.m c.a = 0) (hnn : n ∉ ns) (hal : a1.gens.length = E1.length) (hat : a1.tk[n]? = some true) (hao : ∀ m, m < c.E.length → m ≠ n → a1.tk[m]? = c.a.tk[m]?) (hEE : (n < c.E.length ∧ E1 = c.E) ∨ (n = c.E.length ∧ E1 = c.E ++ [zeroM])) (hE1 : E1 = c.E ++ [zeroM]) (hnE : n = c.E.length) (hroom : (c.E.length : Int) + 1 ≤ s.e) :
  Calls Tryz.prog 70 #[.pointer (some ⟨g, 0, none⟩), emV x] w (holdPost hs p w g { s with l := s.l ++ [x.e] }) := by
 have hbig := h.rel.big
 have HX := Lib.hid hx
 have HMM := Lib.hid h.m
 have HB := Lib.hid h
 have hee : (E1.length : Int) ≤ s.e ∧ n < E1.length ∧ (n : Int) < 1048576 := by
  have := h.rel.ok.bb.2.2.2; have := h.rel.le
  rw [hE1]; rw [List.length_append]; simp; omega
 have HEE := Lib.hid hee
 have HPU : Hid (Tf.Puts c.sd c.t (kb x.e.k) (n : Int) (To.putT (Ta.hom c.sd) c.t (kb x.e.k) n) 0) := Or.inr (Or.inr ⟨by rw [kb_ok]; simpa using hx.1.1, ⟨n, rfl, rfl⟩, hno, rfl⟩)
 have HPG := Lib.hid (To.put_good h.lo.tb.good hno n)
 obtain ⟨T, hT⟩ : ∃ T, T = To.putT (Ta.hom c.sd) c.t (kb x.e.k) n := ⟨_, rfl⟩
 rw [← hT] at HPU HPG
 have HLM : Hid (c.t.length ≤ 8388608) := h.lo.tb.pl.lim
 have HCN : Hid (Tm.cnt c.t < 1048576) := by show _ < _; have := h.rel.tc; have := h.rel.len; have := h.rel.ok.bb.2.2.2; omega
 have HR1 := Lib.hid (h.rel.hold hx hk hu hl (n := n) (E1 := E1) (a' := a1) (t' := T) (hsn n) hEE hnn hee.1 hal hat hao HPG.out.2.2.2 HPG.out.2.2.1)
 have HRC : Hid (Ua.addT c.r (n : Int) = iI (ns ++ [n])) := by show _ = _; rw [h.r]; unfold Ua.addT; rw [if_pos ⟨⟨by omega, hee.2.2⟩, fun e => hnn (mem_iI.1 e)⟩]; unfold iI; rw [List.map_append]; rfl
 have HTD : Hid (Yb.Tm x.e.d) := hx.2.d
 have HTK : Hid (∀ v, Na.Are (fun j => p j = 2 ∧ j < w.heap.size) v q.ga c.m 1 c.a → Calls Tryz.prog 105 #[.pointer (some ⟨q.ga, 0, none⟩)] v (fun e w' => e = .returned (.tuple #[.agg #[.int .i64 (n : Int), .int .i64 G0], .int .i64 0]) ∧ Na.Are (More (fun j => p j = 2 ∧ j < w.heap.size) v) w' q.ga c.m 1 a1 ∧ Only (fun j => p j = 2 ∧ j < w.heap.size) v w')) := fun v hv => by have := Nd.take_any hv; unfold Nd.takePost at this; rw [t1, t2, t3, t4] at this; exact this
 have HNE0 := Lib.hid hnE
 clear hnE
 obtain ⟨g0, g1, g2, g3, g4, g5⟩ := Ik.Lo.six h.lo
 have hgl := h.lo.lt
 obtain ⟨C, hC⟩ : ∃ C, C = w.heap.size := ⟨_, rfl⟩
 obtain ⟨v1, hv1⟩ : ∃ v1, v1 = w.alloc (.cells (emA x) 42) := ⟨_, rfl⟩
 have HT1 : Hid (Tk p w [(C, emA x, 42)] [x] (col p 0 w.heap.size) v1 g q c) := by
  have hb : Below w.heap.size w v1 := by rw [hv1]; exact bnew _ _
  exact (((Tk.start h.lo).addY hxr).below hb).add (by rw [hv1, hC]; exact Blk.new w _ _) (col_ge (by omega))
 have HA1 := Lib.hid (show Na.Are (fun j => p j = 2 ∧ j < w.heap.size) v1 q.ga c.m 1 c.a by rw [hv1]; exact h.lo.ar.tight.below (bnew _ _) (Nat.le_refl _))
 obtain ⟨p1, hp1⟩ : ∃ p1, p1 = col p 0 w.heap.size := ⟨_, rfl⟩
 have HP1 : Hid (∀ j, p j = 2 ∧ j < w.heap.size → p1 j = 2) := fun j hj => by rw [hp1, col_lt hj.2]; exact hj.1
 rw [← hp1] at HT1
 have HC := Lib.hid hC
 have HEL := Lib.hid hE1
 unfold holdPost
 unfold emV
 unfold emA at hv1
 clear h hx hk hu hl hno hT hp1 g1 g2 g3 g4 g5 hxr t1 t2 t3 t4 hal hat hao hEE hnn hee hE1
 go_enter Tryz.func70, Tryz.ntmps70
 go_wp2_with fail
 rw [← hv1, ← hC]
 clear hv1 hC g0 hgl
 refine (HTK.out v1 HA1.out).mono ?_
 rintro _ v2 ⟨rfl, ha, ho⟩
 have ho2 : Only (fun j => p1 j = 2) v1 v2 := ho.mono fun j _ hj => HP1.out j hj
 have HT2 := Lib.hid (HT1.out.next (HT1.out.lo.setA (p' := col p1 2 v1.heap.size) (fun _ hj => col_lt hj) ha ho2 (fun j hj hm => more_col j hj (hm.elim (fun e => Or.inl (HP1.out j e)) Or.inr))) (Step.part (by decide) ho2))
 clear ha ho ho2 HA1 HTK
 obtain ⟨p2, hp2⟩ : ∃ p2, p2 = col p1 2 v1.heap.size := ⟨_, rfl⟩
 rw [← hp2] at HT2
 clear hp2
 obtain ⟨R, hR⟩ : ∃ R, R = v2.heap.size := ⟨_, rfl⟩
 obtain ⟨v3, hv3⟩ : ∃ v3, v3 = v2.alloc (.cells #[.int .i64 (n : Int), .int .i64 G0] 149) := ⟨_, rfl⟩
 have HT3 : Hid (Tk p w [(R, #[.int .i64 (n : Int), .int .i64 G0], 149), (C, emA x, 42)] [x] (col p2 0 v2.heap.size) v3 g q { c with a := a1 }) := by
  have hb : Below v2.heap.size v2 v3 := by rw [hv3]; exact bnew _ _
  exact (HT2.out.below hb).add (by rw [hv3, hR]; exact Blk.new _ _ _) (col_ge (by omega))
 obtain ⟨p3, hp3⟩ : ∃ p3, p3 = col p2 0 v2.heap.size := ⟨_, rfl⟩
 rw [← hp3] at HT3
 clear hp3
 go_wp2_with fail
 rw [← hv3, ← hR]
 clear hv3 hR
 obtain ⟨g0, g1, g2, g3, g4, g5⟩ := Ik.Lo.six HT3.out.lo
 have hgl := HT3.out.lo.lt
 obtain ⟨r0, r1, _, _⟩ := (HT3.out.get (b := R) (cs := #[.int .i64 (n : Int), .int .i64 G0]) (t := 149) (by simp)).1.two
 have hrl := (HT3.out.get (b := R) (cs := #[.int .i64 (n : Int), .int .i64 G0]) (t := 149) (by simp)).1.lt
 simp only at g1
 have hq1 : ((n : Int) == (c.E.length : Int)) = true := by rw [HNE0.out]; simp
 go_quiet (fail)
 have HT4 := Lib.hid (HT3.out.drewN nq)
 obtain ⟨v4, hv4⟩ : ∃ v4, v4 = v3.drewN nq := ⟨_, rfl⟩
 have k1 : v4.cell? ⟨g, 1, none⟩ = some (.slice q.A c.E.length q.c) := by rw [hv4]; exact g1
 rw [← hv4] at HT4
 clear g0 g1 g2 g3 g4 g5 hgl
 clear r0 r1 hrl
 have HM4 : Hid (Mine 0 6 (v4.alloc (.cells #[.string ⟨#[]⟩, .slice none 0 0, .slice none 0 0, .int .u64 0, .int .u64 0, .int .u64 0] 42)) q.A c.E.length q.c (emL c.E)) := HT4.out.lo.en.below (bnew v4 (.cells #[.string ⟨#[]⟩, .slice none 0 0, .slice none 0 0, .int .u64 0, .int .u64 0, .int .u64 0] 42)) (Nat.le_refl _)
 have HSR : Hid (Src Tryz.prog 6 30 (.slice (some ⟨v4.heap.size, 0, none⟩) 1 1) 1 (emC zeroM) (v4.alloc (.cells #[.string ⟨#[]⟩, .slice none 0 0, .slice none 0 0, .int .u64 0, .int .u64 0, .int .u64 0] 42))) := src_one v4 zeroM
 rw [← hv4]
 clear hv4
 go_wp2_with (at_builtin; (refine wpList_mine rfl _ _ elE _ rfl rfl HM4.out _ rfl 1 _ HSR.out (by omega) (by omega) (Nat.zero_le _) ?_))
 intro A5 c5 w5 m5 g5' q5
 have HGB := Lib.hid (HT4.out.lo.bk.below (bnew v4 (.cells #[.string ⟨#[]⟩, .slice none 0 0, .slice none 0 0, .int .u64 0, .int .u64 0, .int .u64 0] 42)) HT4.out.lo.lt)
 have hgA : ∀ a, q.A = some a → a.block ≠ g := fun a ha e => by have h1 := HT4.out.lo.pe a ha; rw [e, HT4.out.lo.pg] at h1; cases h1
 have HK5 := Lib.hid (Nc.blk_row HGB.out g5' hgA)
 have HO5 : Hid (Only (fun j => p3 j = 1 ∨ p3 j = 7) v4 w5) := (Only.of_below (bnew v4 (.cells #[.string ⟨#[]⟩, .slice none 0 0, .slice none 0 0, .int .u64 0, .int .u64 0, .int .u64 0] 42)) (Nat.le_refl _) _).trans ((Nc.only_row g5' (fun a ha => HT4.out.lo.pe a ha)).mono fun _ _ e => Or.inl (Or.inr e))
 have HQ5 : Hid (∀ a, A5 = some a → col p3 7 v4.heap.size a.block = 7 ∧ a.block ≠ g) := fun a ha => by
  rcases q5 with e | e
  ·rw [e] at ha; exact ⟨by rw [col_lt (HT4.out.lo.en.base ha).2.1]; exact HT4.out.lo.pe a ha, hgA a ha⟩
  ·have h1 := e a ha; have hz : v4.heap.size + 1 ≤ a.block := by simpa using h1
   exact ⟨col_ge (by omega), by have := HT4.out.lo.lt; omega⟩
 have HM5 : Hid (Mine 0 6 w5 A5 E1.length c5 (emL E1)) := by show Mine _ _ _ _ _ _ _; rw [HEL.out, List.length_append, emL_append, emL_one]; exact m5
 have HT5 : Hid (Tk p w [(R, #[.int .i64 (n : Int), .int .i64 G0], 149), (C, emA x, 42)] [x] (col p3 7 v4.heap.size) (w5.setCell ⟨g, 1, none⟩ (.slice A5 E1.length c5)) g { q with A := A5, c := c5 } { c with a := a1, E := E1 }) := by
  have hw : Only (fun j => j = g) w5 (w5.setCell ⟨g, 1, none⟩ (.slice A5 E1.length c5)) := only_own (F := fun j => j = g) rfl _
  have ho : Only (fun j => p3 j = 1 ∨ p3 j = 7) v4 (w5.setCell ⟨g, 1, none⟩ (.slice A5 E1.length c5)) := HO5.out.trans (hw.mono fun j _ e => by rw [e]; exact Or.inl (Or.inl HT4.out.lo.pg))
  refine HT4.out.next (HT4.out.lo.setE (E := E1) (A := A5) (n := c5) ?_ ?_ ho (fun _ hj => col_lt hj) (fun a ha => (HQ5.out a ha).1) ?_) (Step.two ho (fun _ hj => col_lt hj))
  ·exact HK5.out.set 1 _
  ·exact HM5.out.only hw (fun a ha e => (HQ5.out a ha).2 e)
  ·intro y hy
   rw [HEL.out] at hy
   rcases List.mem_append.1 hy with hy | hy
   ·exact HT4.out.lo.re y hy
   ·rw [List.mem_singleton.1 hy]; exact RE.zero
 have f1 : w5.frozen? ⟨g, 1, none⟩ = false := HK5.out.frozen 1
 have k5 : w5.cell? ⟨g, 1, none⟩ = some (.slice q.A c.E.length q.c) := HK5.out.cell 1
 have HNE : Hid (E1.length = c.E.length + 1) := by show _ = _; rw [HEL.out, List.length_append]; rfl
 rw [HNE.out] at HT5
 clear m5 g5' q5 hgA k1
 go_wp2_with fail
 obtain ⟨v5, hv5⟩ : ∃ v5, v5 = w5.setCell ⟨g, 1, none⟩ (.slice A5 (c.E.length + 1) c5) := ⟨_, rfl⟩
 rw [← hv5] at HT5 ⊢
 clear hv5 f1 k5
 obtain ⟨p5, hp5⟩ : ∃ p5, p5 = col p3 7 v4.heap.size := ⟨_, rfl⟩
 rw [← hp5] at HT5
 clear hp5
 obtain ⟨q6, hq6⟩ : ∃ q6 : Ptr, q6 = { q with A := A5, c := c5 } := ⟨_, rfl⟩
 rw [← hq6] at HT5
 have HQ6 : Hid (q6.ga = q.ga ∧ q6.gt = q.gt ∧ q6.gr = q.gr ∧ q6.gh = q.gh ∧ q6.gc = q.gc) := by show _ ∧ _; rw [hq6]; exact ⟨rfl, rfl, rfl, rfl, rfl⟩
 clear hq6
 obtain ⟨c6, hc6⟩ : ∃ c6 : Ct, c6 = { c with a := a1, E := E1 } := ⟨_, rfl⟩
 rw [← hc6] at HT5
 have HC6 : Hid (c6.m = c.m ∧ c6.sd = c.sd ∧ c6.t = c.t ∧ c6.r = c.r ∧ c6.h = c.h ∧ c6.k = c.k ∧ c6.E = E1 ∧ c6.a = a1) := by show _ ∧ _; rw [hc6]; exact ⟨rfl, rfl, rfl, rfl, rfl, rfl, rfl, rfl⟩
 clear hc6
 have hnl : n < c6.E.length := by rw [HC6.out.2.2.2.2.2.2.1]; exact HEE.out.2.1
 have hbig6 : c6.E.length ≤ 1048576 := by rw [HC6.out.2.2.2.2.2.2.1]; have := HEE.out.1; have := HB.out.rel.ok.bb.2.2.2; omega
 have i1 : (n : Int) < (c6.E.length : Int) := by omega
 obtain ⟨b, o, hA, hb, hpb, _, _, _, _, _, _, _⟩ := HT5.out.lo.at_ (n := n) hnl
 obtain ⟨g0, g1, g2, g3, g4, g5⟩ := Ik.Lo.six HT5.out.lo
 have hgl := HT5.out.lo.lt
 have HKX := (HT5.out.get (b := C) (cs := emA x) (t := 42) (by simp)).1
 unfold emA at HKX
 obtain ⟨x0, x1, x2, x3, x4, x5, xf⟩ := six HKX
 have hxl := HKX.lt
 clear HKX xf
 obtain ⟨r0, r1, _, _⟩ := (HT5.out.get (b := R) (cs := #[.int .i64 (n : Int), .int .i64 G0]) (t := 149) (by simp)).1.two
 have hrl := (HT5.out.get (b := R) (cs := #[.int .i64 (n : Int), .int .i64 G0]) (t := 149) (by simp)).1.lt
 rw [hA] at g1
 have HD := Lib.hid HT5.out.drew
 have hS0 : v5.drew.cell? ⟨g, 1, none⟩ = some (.slice (some ⟨b, o, none⟩) c6.E.length q6.c) ∧ v5.drew.cell? ⟨R, 0, none⟩ = some (.int .i64 (n : Int)) ∧ v5.drew.cell? ⟨C, 0, none⟩ = some (.string x.e.k) ∧ v5.drew.cell? ⟨C, 1, none⟩ = some (.slice x.A x.e.v.length x.a) ∧ v5.drew.cell? ⟨C, 2, none⟩ = some (.slice x.B x.e.t.length x.b) ∧ v5.drew.cell? ⟨C, 3, none⟩ = some (.int .u64 x.e.d) ∧ v5.drew.cell? ⟨C, 4, none⟩ = some (.int .u64 x.e.n) ∧ v5.drew.cell? ⟨C, 5, none⟩ = some (.int .u64 x.e.s) := ⟨g1, r0, x0, x1, x2, x3, x4, x5⟩
 clear g0 g1 g2 g3 g4 g5 hgl
 clear x0 x1 x2 x3 x4 x5 hxl
 clear r0 r1 hrl
 refine wp_region_noPanic ?_
 refine wp_region_G 8 (fun v => v.cell? ⟨g, 1, none⟩ = some (.slice (some ⟨b, o, none⟩) c6.E.length q6.c) ∧ v.cell? ⟨R, 0, none⟩ = some (.int .i64 (n : Int)) ∧ v.cell? ⟨C, 0, none⟩ = some (.string x.e.k) ∧ v.cell? ⟨C, 1, none⟩ = some (.slice x.A x.e.v.length x.a) ∧ v.cell? ⟨C, 2, none⟩ = some (.slice x.B x.e.t.length x.b) ∧ v.cell? ⟨C, 3, none⟩ = some (.int .u64 x.e.d) ∧ v.cell? ⟨C, 4, none⟩ = some (.int .u64 x.e.n) ∧ v.cell? ⟨C, 5, none⟩ = some (.int .u64 x.e.s)) (by kernel_rfl) ?_
 obtain ⟨u6, hu6⟩ : ∃ u6, u6 = v5.drew := ⟨_, rfl⟩
 rw [← hu6] at hS0 HD ⊢
 clear hu6
 have HT6 := HD
 clear HD
 obtain ⟨b2, o2, hA2, hb2, _, e0, e1, e2, e3, e4, e5, ef⟩ := HT6.out.lo.at_ (n := n) hnl
 rw [hA] at hA2
 injection hA2 with hA2
 injection hA2 with hbb hoo
 subst hbb; subst hoo
 have ef0 := ef 0 (by omega); have ef1 := ef 1 (by omega); have ef2 := ef 2 (by omega); have ef3 := ef 3 (by omega); have ef4 := ef 4 (by omega); have ef5 := ef 5 (by omega)
 rw [Nat.add_zero] at ef0
 refine Rg.tg 0 (some 32) (v := ?_) rfl (by kernel_rfl) (fun _ _ _ h => h) (by rfl) (hS0) ?_ ?_
 rotate_left
 ·intro w hSw; go_simp; first | done | with_reducible rfl
 try simp only [Ap.sc]
 refine Rg.tg 1 (some 33) (v := ?_) rfl (by kernel_rfl) (fun _ _ _ h => h) (by rfl) (hS0) ?_ ?_
 rotate_left
 ·intro w hSw; go_simp; first | done | with_reducible rfl
 try simp only [Ap.sc]
 refine Rg.tg 2 (some 34) (v := ?_) rfl (by kernel_rfl) (fun _ _ _ h => h) (by rfl) (hS0) ?_ ?_
 rotate_left
 ·intro w hSw; go_simp; first | done | with_reducible rfl
 try simp only [Ap.sc]
 refine Rg.tg 3 (some 35) (v := ?_) rfl (by kernel_rfl) (fun _ _ _ h => h) (by rfl) (hS0) ?_ ?_
 rotate_left
 ·intro w hSw; go_simp; first | done | with_reducible rfl
 try simp only [Ap.sc]
 refine Rg.tg 4 (some 36) (v := ?_) rfl (by kernel_rfl) (fun _ _ _ h => h) (by rfl) (hS0) ?_ ?_
 rotate_left
 ·intro w hSw; go_simp; first | done | with_reducible rfl
 try simp only [Ap.sc]
 refine Rg.tg 5 (some 37) (v := ?_) rfl (by kernel_rfl) (fun _ _ _ h => h) (by rfl) (hS0) ?_ ?_
 rotate_left
 ·intro w hSw; go_simp; first | done | with_reducible rfl
 try simp only [Ap.sc]
 refine Rg.tg 6 (some 38) (v := ?_) rfl (by kernel_rfl) (fun _ _ _ h => h) (by rfl) (hS0) ?_ ?_
 rotate_left
 ·intro w hSw; go_simp; first | done | with_reducible rfl
 try simp only [Ap.sc]
 refine Rg.tg 7 (some 39) (v := ?_) rfl (by kernel_rfl) (fun _ _ _ h => h) (by rfl) (hS0) ?_ ?_
 rotate_left
 ·intro w hSw; go_simp; first | done | with_reducible rfl
 try simp only [Ap.sc]
 refine wpAnyG_ready (rs := [8]) (by kernel_rfl) (by simp) ?_
 refine AllReadyG.cons (o := ⟨none, _, _, _, _, _⟩) rfl (fun K hK => ?_) AllReadyG.nil
 go_simp
 refine hK.out _ _ (fun h => absurd h (by omega)) ?_
 clear hK K
 refine wpAnyG_done (by kernel_rfl) ?_ _
 refine NoPanic.normal ?_
 obtain ⟨v7, hv7⟩ : ∃ v7, v7 = (((((u6.setCell ⟨b, o + n * 6, none⟩ (.string x.e.k)).setCell ⟨b, o + n * 6 + 1, none⟩ (.slice x.A x.e.v.length x.a)).setCell ⟨b, o + n * 6 + 2, none⟩ (.slice x.B x.e.t.length x.b)).setCell ⟨b, o + n * 6 + 3, none⟩ (.int .u64 x.e.d)).setCell ⟨b, o + n * 6 + 4, none⟩ (.int .u64 x.e.n)).setCell ⟨b, o + n * 6 + 5, none⟩ (.int .u64 x.e.s) := ⟨_, rfl⟩
 have HT7 : Hid (Tk p w [(R, #[.int .i64 (n : Int), .int .i64 G0], 149), (C, emA x, 42)] [x] p5 v7 g q6 { c6 with E := c6.E.set n x }) := by
  have ho : Only (fun j => j = b) u6 v7 := by rw [hv7]; exact ((((((Only.refl (fun j => j = b) u6).put (ad := ⟨b, o + n * 6, none⟩) rfl _).put (ad := ⟨b, o + n * 6 + 1, none⟩) rfl _).put (ad := ⟨b, o + n * 6 + 2, none⟩) rfl _).put (ad := ⟨b, o + n * 6 + 3, none⟩) rfl _).put (ad := ⟨b, o + n * 6 + 4, none⟩) rfl _).put (ad := ⟨b, o + n * 6 + 5, none⟩) rfl _
  have hM := HT6.out.lo.en
  rw [hA] at hM
  have hM6 := put6_row hM (k := n) hnl x
  have ho7 : Only (fun j => p5 j = 1 ∨ p5 j = 7) u6 v7 := ho.mono fun j _ e => by rw [e]; exact Or.inr hpb
  have hgb : g ≠ b := fun e => by have := HT6.out.lo.pg; rw [e, hpb] at this; cases this
  refine HT6.out.next (HT6.out.lo.setE (E := c6.E.set n x) (A := q6.A) (n := q6.c) ?_ ?_ ho7 (fun _ _ => rfl) HT6.out.lo.pe ?_) (Step.two ho7 (fun _ _ => rfl))
  ·rw [List.length_set]; exact HT6.out.lo.bk.only ho hgb
  ·rw [hA, List.length_set, hv7]; exact hM6
  ·intro y hy
   rcases List.mem_or_eq_of_mem_set hy with hy | hy
   ·exact HT6.out.lo.re y hy
   ·rw [hy]; exact HT6.out.ys x (by simp)
 rw [← hv7]
 clear hv7 e0 e1 e2 e3 e4 e5 ef ef0 ef1 ef2 ef3 ef4 ef5 hA hb hpb hb2 hS0
 obtain ⟨c7, hc7⟩ : ∃ c7 : Ct, c7 = { c6 with E := c6.E.set n x } := ⟨_, rfl⟩
 rw [← hc7] at HT7
 have HC7 : Hid (c7.m = c.m ∧ c7.sd = c.sd ∧ c7.t = c.t ∧ c7.r = c.r ∧ c7.h = c.h ∧ c7.k = c.k ∧ c7.E = E1.set n x ∧ c7.a = a1) := by obtain ⟨z1, z2, z3, z4, z5, z6, z7, z8⟩ := HC6.out; show _ ∧ _; rw [hc7]; exact ⟨z1, z2, z3, z4, z5, z6, by show c6.E.set n x = _; rw [z7], z8⟩
 clear hc7
 obtain ⟨g0, g1, g2, g3, g4, g5⟩ := Ik.Lo.six HT7.out.lo
 have hgl := HT7.out.lo.lt
 have HKX := (HT7.out.get (b := C) (cs := emA x) (t := 42) (by simp)).1
 unfold emA at HKX
 obtain ⟨x0, x1, x2, x3, x4, x5, xf⟩ := six HKX
 have hxl := HKX.lt
 clear HKX xf
 obtain ⟨r0, r1, _, _⟩ := (HT7.out.get (b := R) (cs := #[.int .i64 (n : Int), .int .i64 G0]) (t := 149) (by simp)).1.two
 have hrl := (HT7.out.get (b := R) (cs := #[.int .i64 (n : Int), .int .i64 G0]) (t := 149) (by simp)).1.lt
 go_wp2_with fail
 have HD := Lib.hid HT7.out.drew
 have hS0 : v7.drew.cell? ⟨g, 2, none⟩ = some (.pointer (some ⟨q6.gt, 0, none⟩)) ∧ v7.drew.cell? ⟨C, 0, none⟩ = some (.string x.e.k) ∧ v7.drew.cell? ⟨R, 0, none⟩ = some (.int .i64 (n : Int)) := ⟨g2, x0, r0⟩
 clear g0 g1 g2 g3 g4 g5 hgl
 clear x0 x1 x2 x3 x4 x5 hxl
 clear r0 r1 hrl
 refine wp_region_noPanic ?_
 refine wp_region_G 8 (fun v => v.cell? ⟨g, 2, none⟩ = some (.pointer (some ⟨q6.gt, 0, none⟩)) ∧ v.cell? ⟨C, 0, none⟩ = some (.string x.e.k) ∧ v.cell? ⟨R, 0, none⟩ = some (.int .i64 (n : Int))) (by kernel_rfl) ?_
 obtain ⟨u8, hu8⟩ : ∃ u8, u8 = v7.drew := ⟨_, rfl⟩
 rw [← hu8] at hS0 HD ⊢
 clear hu8
 have HT8 := HD
 clear HD
 refine Rg.tg 0 (some 40) (v := ?_) rfl (by kernel_rfl) (fun _ _ _ h => h) (by rfl) (hS0) ?_ ?_
 rotate_left
 ·intro w hSw; go_simp; first | done | with_reducible rfl
 try simp only [Ap.sc]
 refine Rg.tg 1 (some 41) (v := ?_) rfl (by kernel_rfl) (fun _ _ _ h => h) (by rfl) (hS0) ?_ ?_
 rotate_left
 ·intro w hSw; go_simp; first | done | with_reducible rfl
 try simp only [Ap.sc]
 refine Rg.tg 2 (some 42) (v := ?_) rfl (by kernel_rfl) (fun _ _ _ h => h) (by rfl) (hS0) ?_ ?_
 rotate_left
 ·intro w hSw; go_simp; first | done | with_reducible rfl
 try simp only [Ap.sc]
 refine Rg.tg 3 (some 43) (v := ?_) rfl (by kernel_rfl) (fun _ _ _ h => h) (by rfl) (hS0) ?_ ?_
 rotate_left
 ·intro w hSw; go_simp; first | done | with_reducible rfl
 try simp only [Ap.sc]
 refine Rg.tg 4 (some 44) (v := ?_) rfl (by kernel_rfl) (fun _ _ _ h => h) (by rfl) (hS0) ?_ ?_
 rotate_left
 ·intro w hSw; go_simp; first | done | with_reducible rfl
 try simp only [Ap.sc]
 refine Rg.tg 5 (some 45) (v := ?_) rfl (by kernel_rfl) (fun _ _ _ h => h) (by rfl) (hS0) ?_ ?_
 rotate_left
 ·intro w hSw; go_simp; first | done | with_reducible rfl
 try simp only [Ap.sc]
 refine Rg.tg 6 (some 46) (v := ?_) rfl (by kernel_rfl) (fun _ _ _ h => h) (by rfl) (hS0) ?_ ?_
 rotate_left
 ·intro w hSw; go_simp; first | done | with_reducible rfl
 try simp only [Ap.sc]
 refine Rg.tg 7 (some 47) (v := ?_) rfl (by kernel_rfl) (fun _ _ _ h => h) (by rfl) (hS0) ?_ ?_
 rotate_left
 ·intro w hSw; go_simp; first | done | with_reducible rfl
 try simp only [Ap.sc]
 refine wpAnyG_ready (rs := [8]) (by kernel_rfl) (by simp) ?_
 refine AllReadyG.cons (o := ⟨some 48, _, _, _, _, _⟩) rfl (fun K hK => ?_) AllReadyG.nil
 go_simp
 have HPA := Pf.put_any (c := c.t) (seed := c.sd) (by have := HT8.out.lo.tb; rw [HC7.out.2.2.1, HC7.out.2.1] at this; exact this) (kb x.e.k) (by rw [kb_len]; have := HX.out.2.k; omega) HLM.out HCN.out (by have := HEE.out.2.2; omega) HPU.out
 rw [kb_str] at HPA
 refine HPA.mono ?_
 rintro _ v9 ⟨rfl, ha, ho⟩
 clear HPA
 have HT9 := Lib.hid (HT8.out.next (HT8.out.lo.setT (p' := col p5 3 u8.heap.size) (fun _ hj => col_lt hj) (by rw [HC7.out.2.1]; exact ha) ho more_col) (Step.part (by decide) ho))
 clear ha ho
 refine hK.out _ _ (fun h => absurd h (by omega)) ?_
 clear hK K
 refine wpAnyG_done (by kernel_rfl) ?_ _
 refine NoPanic.normal ?_
 obtain ⟨p9, hp9⟩ : ∃ p9, p9 = col p5 3 u8.heap.size := ⟨_, rfl⟩
 rw [← hp9] at HT9
 clear hp9 hS0
 obtain ⟨g0, g1, g2, g3, g4, g5⟩ := Ik.Lo.six HT9.out.lo
 have hgl := HT9.out.lo.lt
 obtain ⟨r0, r1, _, _⟩ := (HT9.out.get (b := R) (cs := #[.int .i64 (n : Int), .int .i64 G0]) (t := 149) (by simp)).1.two
 have hrl := (HT9.out.get (b := R) (cs := #[.int .i64 (n : Int), .int .i64 G0]) (t := 149) (by simp)).1.lt
 go_wp2_with fail
 have HD := Lib.hid HT9.out.drew
 have hS0 : v9.drew.cell? ⟨g, 3, none⟩ = some (.pointer (some ⟨q6.gr, 0, none⟩)) ∧ v9.drew.cell? ⟨R, 0, none⟩ = some (.int .i64 (n : Int)) := ⟨g3, r0⟩
 clear g0 g1 g2 g3 g4 g5 hgl
 clear r0 r1 hrl
 refine wp_region_noPanic ?_
 refine wp_region_G 6 (fun v => v.cell? ⟨g, 3, none⟩ = some (.pointer (some ⟨q6.gr, 0, none⟩)) ∧ v.cell? ⟨R, 0, none⟩ = some (.int .i64 (n : Int))) (by kernel_rfl) ?_
 obtain ⟨u10, hu10⟩ : ∃ u10, u10 = v9.drew := ⟨_, rfl⟩
 rw [← hu10] at hS0 HD ⊢
 clear hu10
 have HT10 := HD
 clear HD
 refine Rg.tg 0 (some 49) (v := ?_) rfl (by kernel_rfl) (fun _ _ _ h => h) (by rfl) (hS0) ?_ ?_
 rotate_left
 ·intro w hSw; go_simp; first | done | with_reducible rfl
 try simp only [Ap.sc]
 refine Rg.tg 1 (some 50) (v := ?_) rfl (by kernel_rfl) (fun _ _ _ h => h) (by rfl) (hS0) ?_ ?_
 rotate_left
 ·intro w hSw; go_simp; first | done | with_reducible rfl
 try simp only [Ap.sc]
 refine Rg.tg 2 (some 51) (v := ?_) rfl (by kernel_rfl) (fun _ _ _ h => h) (by rfl) (hS0) ?_ ?_
 rotate_left
 ·intro w hSw; go_simp; first | done | with_reducible rfl
 try simp only [Ap.sc]
 refine Rg.tg 3 (some 52) (v := ?_) rfl (by kernel_rfl) (fun _ _ _ h => h) (by rfl) (hS0) ?_ ?_
 rotate_left
 ·intro w hSw; go_simp; first | done | with_reducible rfl
 try simp only [Ap.sc]
 refine Rg.tg 4 (some 53) (v := ?_) rfl (by kernel_rfl) (fun _ _ _ h => h) (by rfl) (hS0) ?_ ?_
 rotate_left
 ·intro w hSw; go_simp; first | done | with_reducible rfl
 try simp only [Ap.sc]
 refine Rg.tg 5 (some 54) (v := ?_) rfl (by kernel_rfl) (fun _ _ _ h => h) (by rfl) (hS0) ?_ ?_
 rotate_left
 ·intro w hSw; go_simp; first | done | with_reducible rfl
 try simp only [Ap.sc]
 refine wpAnyG_ready (rs := [6]) (by kernel_rfl) (by simp) ?_
 refine AllReadyG.cons (o := ⟨some 55, _, _, _, _, _⟩) rfl (fun K hK => ?_) AllReadyG.nil
 go_simp
 refine (Ue.add_any HT10.out.lo.rc (n : Int)).mono ?_
 rintro _ v11 ⟨rfl, ha, ho⟩
 have HT11 := Lib.hid (HT10.out.next (HT10.out.lo.setR (p' := col p9 4 u10.heap.size) (fun _ hj => col_lt hj) ha ho more_col) (Step.part (by decide) ho))
 clear ha ho
 refine hK.out _ _ (fun h => absurd h (by omega)) ?_
 clear hK K
 refine wpAnyG_done (by kernel_rfl) ?_ _
 refine NoPanic.normal ?_
 obtain ⟨p11, hp11⟩ : ∃ p11, p11 = col p9 4 u10.heap.size := ⟨_, rfl⟩
 rw [← hp11] at HT11
 clear hp11 hS0
 obtain ⟨g0, g1, g2, g3, g4, g5⟩ := Ik.Lo.six HT11.out.lo
 have hgl := HT11.out.lo.lt
 obtain ⟨r0, r1, _, _⟩ := (HT11.out.get (b := R) (cs := #[.int .i64 (n : Int), .int .i64 G0]) (t := 149) (by simp)).1.two
 have hrl := (HT11.out.get (b := R) (cs := #[.int .i64 (n : Int), .int .i64 G0]) (t := 149) (by simp)).1.lt
 have HKX := (HT11.out.get (b := C) (cs := emA x) (t := 42) (by simp)).1
 unfold emA at HKX
 obtain ⟨x0, x1, x2, x3, x4, x5, xf⟩ := six HKX
 have hxl := HKX.lt
 clear HKX xf
 go_wp2_with fail
 have HD := Lib.hid HT11.out.drew
 have hS0 : v11.drew.cell? ⟨g, 4, none⟩ = some (.pointer (some ⟨q6.gh, 0, none⟩)) ∧ v11.drew.cell? ⟨R, 0, none⟩ = some (.int .i64 (n : Int)) ∧ v11.drew.cell? ⟨C, 3, none⟩ = some (.int .u64 x.e.d) := ⟨g4, r0, x3⟩
 clear g0 g1 g2 g3 g4 g5 hgl
 clear r0 r1 hrl
 clear x0 x1 x2 x3 x4 x5 hxl
 refine wp_region_noPanic ?_
 refine wp_region_G 8 (fun v => v.cell? ⟨g, 4, none⟩ = some (.pointer (some ⟨q6.gh, 0, none⟩)) ∧ v.cell? ⟨R, 0, none⟩ = some (.int .i64 (n : Int)) ∧ v.cell? ⟨C, 3, none⟩ = some (.int .u64 x.e.d)) (by kernel_rfl) ?_
 obtain ⟨u12, hu12⟩ : ∃ u12, u12 = v11.drew := ⟨_, rfl⟩
 rw [← hu12] at hS0 HD ⊢
 clear hu12
 have HT12 := HD
 clear HD
 refine Rg.tg 0 (some 56) (v := ?_) rfl (by kernel_rfl) (fun _ _ _ h => h) (by rfl) (hS0) ?_ ?_
 rotate_left
 ·intro w hSw; go_simp; first | done | with_reducible rfl
 try simp only [Ap.sc]
 refine Rg.tg 1 (some 57) (v := ?_) rfl (by kernel_rfl) (fun _ _ _ h => h) (by rfl) (hS0) ?_ ?_
 rotate_left
 ·intro w hSw; go_simp; first | done | with_reducible rfl
 try simp only [Ap.sc]
 refine Rg.tg 2 (some 58) (v := ?_) rfl (by kernel_rfl) (fun _ _ _ h => h) (by rfl) (hS0) ?_ ?_
 rotate_left
 ·intro w hSw; go_simp; first | done | with_reducible rfl
 try simp only [Ap.sc]
 refine Rg.tg 3 (some 59) (v := ?_) rfl (by kernel_rfl) (fun _ _ _ h => h) (by rfl) (hS0) ?_ ?_
 rotate_left
 ·intro w hSw; go_simp; first | done | with_reducible rfl
 try simp only [Ap.sc]
 refine Rg.tg 4 (some 60) (v := ?_) rfl (by kernel_rfl) (fun _ _ _ h => h) (by rfl) (hS0) ?_ ?_
 rotate_left
 ·intro w hSw; go_simp; first | done | with_reducible rfl
 try simp only [Ap.sc]
 refine Rg.tg 5 (some 61) (v := ?_) rfl (by kernel_rfl) (fun _ _ _ h => h) (by rfl) (hS0) ?_ ?_
 rotate_left
 ·intro w hSw; go_simp; first | done | with_reducible rfl
 try simp only [Ap.sc]
 refine Rg.tg 6 (some 62) (v := ?_) rfl (by kernel_rfl) (fun _ _ _ h => h) (by rfl) (hS0) ?_ ?_
 rotate_left
 ·intro w hSw; go_simp; first | done | with_reducible rfl
 try simp only [Ap.sc]
 refine Rg.tg 7 (some 63) (v := ?_) rfl (by kernel_rfl) (fun _ _ _ h => h) (by rfl) (hS0) ?_ ?_
 rotate_left
 ·intro w hSw; go_simp; first | done | with_reducible rfl
 try simp only [Ap.sc]
 refine wpAnyG_ready (rs := [8]) (by kernel_rfl) (by simp) ?_
 refine AllReadyG.cons (o := ⟨some 64, _, _, _, _, _⟩) rfl (fun K hK => ?_) AllReadyG.nil
 go_simp
 refine (Ye.put_any HT12.out.lo.hp (n : Int) x.e.d HTD.out).mono ?_
 rintro _ v13 ⟨rfl, ha, ho⟩
 have HT13 := Lib.hid (HT12.out.next (HT12.out.lo.setH (p' := col p11 5 u12.heap.size) (fun _ hj => col_lt hj) ha ho more_col) (Step.part (by decide) ho))
 clear ha ho
 refine hK.out _ _ (fun h => absurd h (by omega)) ?_
 clear hK K
 refine wpAnyG_done (by kernel_rfl) ?_ _
 refine NoPanic.normal ?_
 clear hS0
 go_wp2_with fail
 go_end0
 obtain ⟨z1, z2, z3, z4, z5, z6, z7, z8⟩ := HC7.out
 refine ⟨rfl, _, HT13.out.st, q6, _, ns ++ [n], HT13.out.lo, ?_, ?_, ?_⟩
 ·dsimp only
  rewrite [z5, z6, z7, z8]
  with_reducible exact HR1.out
 ·dsimp only
  rewrite [z4]; with_reducible exact HRC.out
 ·dsimp only
  rewrite [z1]; with_reducible exact HMM.out
theorem hold_any {x : Em} (h : Bt hs (cost x.e : Int) 1 p w g s ns q c) (hx : okE x.e ∧ Fit x.e) (hxr : RE (fun j => p j = 8 ∧ j < w.heap.size) w x) (hk : ∀ y ∈ s.l, y.k ≠ x.e.k) (hu : (used s.l : Int) + (cost x.e : Int) ≤ s.b) (hl : (s.l.length : Int) + 1 ≤ s.e) (hsn : ∀ n, hs n) :
  Calls Tryz.prog 70 #[.pointer (some ⟨g, 0, none⟩), emV x] w (holdPost hs p w g { s with l := s.l ++ [x.e] }) := by
 have hno : ∀ y, some (kb x.e.k, y) ∉ c.t := fun y hy => by
  obtain ⟨h1, h2⟩ := (h.rel.tm _ _).1 hy
  exact hk _ (h.rel.enm h1) (kb_inj h2).symm
 have hinv := h.lo.ar.inv
 have htl := hinv.tl
 have hal := h.rel.al
 have hM := h.m
 rcases Nm.tk_ways c.m c.a with ⟨hf, hfm⟩ | ⟨hf, hfm⟩ | ⟨r, n, hf⟩
 ·have := full_len h.rel hinv hf
  omega
 ·obtain ⟨t1, t2, t3, t4⟩ := Nm.tk_new hf hfm
  have hle := hinv.le
  rw [hal] at t2
  refine hold_new h hx hxr hk hu hl hsn hno t1 t2 t3 t4 (fun hn => ?_) (E1 := c.E ++ [zeroM]) ?_ ?_ (fun m hm hne => ?_) (Or.inr ⟨rfl, rfl⟩) rfl rfl (by omega)
  ·have := h.rel.lt _ hn; omega
  ·simp [hal]
  ·rw [List.getElem?_append_right (by omega), htl, hal, Nat.sub_self]; rfl
  ·rw [List.getElem?_append_left (by omega)]
 ·obtain ⟨t1, t2, t3, t4⟩ := Nm.tk_old (M := c.m) hf
  have hnf : n ∈ c.a.fr := by rw [hf]; simp
  have hnl := hinv.lt hnf
  have hfre := hinv.fre n hnf
  rw [hal] at hnl
  refine hold_old h hx hxr hk hu hl hsn hno t1 t2 t3 t4 (fun hn => ?_) (E1 := c.E) hal ?_ (fun m hm hne => ?_) (Or.inl ⟨hnl, rfl⟩) rfl hnl
  ·have := (h.rel.am n hnl).2 hn; rw [hfre] at this; cases this
  ·rw [List.getElem?_set_self (by omega)]
  ·rw [List.getElem?_set_ne (fun e => hne e.symm)]
end
end Go.Proofs.YtlmljhnogmfcfaaGreat.If
namespace Go.Proofs.YtlmljhnogmfcfaaGreat.Ig
open Go.RowKit Ap Mi Nw Rg Ea Eb Ec Ed Ee El Ia Ib Ic Ik Ie If

theorem own_lt {B n c : Nat} {w : World} {e : TypeId} {A : Option Addr} {xs : List Value} (h : w.ownsRow B e 1 (.slice A n c) n xs) {a : Addr} (ha : A = some a) : B ≤ a.block ∧ a.block < w.heap.size := by
 obtain ⟨_, h2 | ⟨g, cap, cur, hv, hB, hg, _⟩⟩ := h
 ·have := h2.1; rw [ha] at this; cases this
 ·injection hv with hv
  rw [ha] at hv
  injection hv with hv
  rw [hv]
  exact ⟨hB, (Array.getElem?_eq_some_iff.1 hg).1⟩
section
variable {p p1 p2 : Nat → Nat} {w v v' : World} {y : Em} {A : Option Addr} {n : Nat} {l : List Em} {F : Nat → Prop}
theorem _root_.Go.Proofs.YtlmljhnogmfcfaaGreat.Ie.Gv.rows (h : Gv p1 w v y) {j : Nat} (hj : El.Rows y j) : w.heap.size ≤ j ∧ j < v.heap.size ∧ p1 j = 0 := by
 rcases hj with ⟨a, ha, rfl⟩ | ⟨a, ha, rfl⟩
 ·exact ⟨(own_lt h.ow.v ha).1, (own_lt h.ow.v ha).2, (h.re.gv a ha).1⟩
 ·exact ⟨(own_lt h.ow.t ha).1, (own_lt h.ow.t ha).2, (h.re.gt a ha).1⟩
theorem _root_.Go.Proofs.YtlmljhnogmfcfaaGreat.Ie.Gv.only (h : Gv p1 w v y) (ho : Only F v v') (hn : ∀ j, El.Rows y j → ¬ F j) (hp : ∀ j, j < v.heap.size → p2 j = p1 j) : Gv p2 w v' y := by
 have hA : ∀ a, y.A = some a → ¬ F a.block := fun a ha => hn _ (Or.inl ⟨a, ha, rfl⟩)
 have hB : ∀ a, y.B = some a → ¬ F a.block := fun a ha => hn _ (Or.inr ⟨a, ha, rfl⟩)
 refine ⟨⟨h.ow.f, own_keep h.ow.v ho (fun j ej => ?_), own_keep h.ow.t ho (fun j ej => ?_)⟩, ⟨h.ow.f, h.re.v.only ho hA, h.re.t.only ho hB, fun a ha => ?_, fun a ha => ?_⟩⟩
 ·cases hh : y.A with
  | none => rw [hh] at ej; cases ej
  | some a => rw [hh] at ej; cases ej; exact hA a hh
 ·cases hh : y.B with
  | none => rw [hh] at ej; cases ej
  | some a => rw [hh] at ej; cases ej; exact hB a hh
 ·have := h.rows (Or.inl ⟨a, ha, rfl⟩); exact ⟨by rw [hp _ this.2.1]; exact this.2.2, this.1⟩
 ·have := h.rows (Or.inr ⟨a, ha, rfl⟩); exact ⟨by rw [hp _ this.2.1]; exact this.2.2, this.1⟩
theorem _root_.Go.Proofs.YtlmljhnogmfcfaaGreat.Ie.Gv.step (h : Gv p1 w v y) (S : Step p1 v p2 v') : Gv p2 w v' y := h.only S.on (fun _ hj hf => hf.1 (h.rows hj).2.2) S.eq
theorem _root_.Go.Proofs.YtlmljhnogmfcfaaGreat.Ie.Gv.back (h : Gv p1 v v' y) (hz : w.heap.size ≤ v.heap.size) : Gv p1 w v' y := ⟨h.ow.base hz, h.re.mono fun _ hj => ⟨hj.1, Nat.le_trans hz hj.2⟩⟩
structure Evd (p1 : Nat → Nat) (w v : World) (A : Option Addr) (n : Nat) (l : List Em) : Prop where
 mi : Mine w.heap.size 6 v A l.length n (emL l)
 gv : ∀ y ∈ l, Gv p1 w v y
 pz : ∀ a, A = some a → p1 a.block = 0
 ap : ∀ a, A = some a → ¬ RowsL l a.block
theorem Evd.nil (p1 : Nat → Nat) (w v : World) : Evd p1 w v none 0 [] := ⟨Mine.nil _ _ _, (fun _ h => by cases h), (fun _ e => by cases e), (fun _ e => by cases e)⟩
theorem Evd.step (h : Evd p1 w v A n l) (S : Step p1 v p2 v') : Evd p2 w v' A n l :=
 ⟨h.mi.only S.on fun a ha hf => hf.1 (h.pz a ha), fun y hy => (h.gv y hy).step S, fun a ha => by rw [S.eq _ (h.mi.base ha).2.1]; exact h.pz a ha, h.ap⟩
theorem Evd.push (h : Evd p1 w v A n l) (hy : Gv p1 w v y) (hya : ∀ a, A = some a → ¬ El.Rows y a.block) {o : Obj} {A5 : Option Addr} {n5 : Nat} {w5 : World}
  (m5 : Mine w.heap.size 6 w5 A5 (l.length + 1) n5 (emL l ++ emC y)) (g5 : (v.alloc o).grownBy w5 (A.map (·.block))) (q5 : A5 = A ∨ ∀ a, A5 = some a → v.heap.size + 1 ≤ a.block) :
  Evd (col p1 0 v.heap.size) w w5 A5 n5 (l ++ [y]) ∧ Only (fun j => ∃ a, A = some a ∧ a.block = j) v w5 := by
 have ho : Only (fun j => ∃ a, A = some a ∧ a.block = j) v w5 := (Only.of_below (bnew v o) (Nat.le_refl _) _).trans ((Only.of_grown g5 (F := fun j => ∃ a, A = some a ∧ a.block = j) (fun k e => by rw [Option.map_eq_some_iff] at e; exact e)).mono fun _ _ hf => Or.inl hf)
 refine ⟨⟨by rw [List.length_append, emL_append, emL_one]; exact m5, fun x hx => ?_, fun a ha => ?_, fun a ha hr => ?_⟩, ho⟩
 ·rcases List.mem_append.1 hx with hx | hx
  ·exact (h.gv x hx).only ho (fun j hj hf => by obtain ⟨a, ha, rfl⟩ := hf; exact h.ap a ha ⟨x, hx, hj⟩) (fun _ hj => col_lt hj)
  ·rw [List.mem_singleton.1 hx]
   exact hy.only ho (fun j hj hf => by obtain ⟨a, ha, rfl⟩ := hf; exact hya a ha hj) (fun _ hj => col_lt hj)
 ·rcases q5 with e | e
  ·rw [e] at ha; rw [col_lt (h.mi.base ha).2.1]; exact h.pz a ha
  ·have := e a ha; exact col_ge (by omega)
 ·obtain ⟨x, hx, hj⟩ := hr
  have hxr : El.Rows x a.block → a.block < v.heap.size := fun hj => by
   rcases List.mem_append.1 hx with hx | hx
   ·exact ((h.gv x hx).rows hj).2.1
   ·rw [List.mem_singleton.1 hx] at hj; exact (hy.rows hj).2.1
  rcases q5 with e | e
  ·rw [e] at ha
   rcases List.mem_append.1 hx with hx | hx
   ·exact h.ap a ha ⟨x, hx, hj⟩
   ·rw [List.mem_singleton.1 hx] at hj; exact hya a ha hj
  ·have h1 := e a ha
   have h2 := hxr hj
   omega
end
def evictPost (hs : Nat → Prop) (cx : Int) (p : Nat → Nat) (w : World) (g : Nat) (s : Sx) (q : Ptr) (K : Nat) : Ending → World → Prop := fun r w' => ∃ p' c' ns' A n l, r = .returned (.slice A l.length n) ∧ l.map Em.e = s.l.take K ∧ Evd p' w w' A n l ∧ Step p w p' w' ∧ Bt hs cx 1 p' w' g { s with l := s.l.drop K } ns' q c'
structure Evi (hs : Nat → Prop) (cx : Int) (p : Nat → Nat) (w : World) (g : Nat) (s : Sx) (ns : List Nat) (q : Ptr) (K J : Nat) (p1 : Nat → Nat) (v : World) (c1 : Ct) (A : Option Addr) (n : Nat) (l : List Em) : Prop where
 le : J ≤ K
 m : l.map Em.e = s.l.take J
 d : Evd p1 w v A n l
 st : Step p w p1 v
 b : Bt hs cx 1 p1 v g { s with l := s.l.drop J } (ns.drop J) q c1
def lenV : Value → Nat
 | .slice _ n _ => n
 | _ => 0
section
variable {hs : Nat → Prop} {cx : Int} {p : Nat → Nat} {w : World} {g : Nat} {s : Sx} {ns : List Nat} {q : Ptr} {c : Ct}
theorem over_is {p1 : Nat → Nat} {v : World} {t : Sx} {ms : List Nat} {c1 : Ct} (h : Bt hs cx 1 p1 v g t ms q c1) : (0 < Ja.ovB c1.k ∨ 0 < Ja.ovE c1.k) ↔ (t.e < (t.l.length : Int) + 1 ∨ t.b < (used t.l : Int) + cx) := by
 have hk := h.rel.k
 unfold Ja.ovB Ja.ovE
 rw [hk]
 simp only
 omega
set_option maxRecDepth 100000 in
set_option maxHeartbeats 4000000 in
theorem evict_any (h : Bt hs cx 1 p w g s ns q c) (hcb : cx ≤ s.b) :
  Calls Tryz.prog 69 #[.pointer (some ⟨g, 0, none⟩)] w (evictPost hs cx p w g s q (evN s.b s.e cx s.l)) := by
 have hbe := h.rel.ok.bb
 have hlen : s.l.length = ns.length := h.rel.len
 have hsm : s.l.length ≤ 1048576 := by have := h.rel.ok.le; have := hbe.2.2.2; omega
 obtain ⟨K, hK⟩ : ∃ K, K = evN s.b s.e cx s.l := ⟨_, rfl⟩
 have hKl : K ≤ s.l.length := by rw [hK]; exact evN_le _ _ _ _
 have HGO : Hid (∀ J, J < K → evQ s.b s.e cx s.l J) := fun J hJ => evN_go (by rw [← hK]; exact hJ)
 have HST : Hid (¬ evQ s.b s.e cx s.l K) := by rw [hK]; exact evN_stop hbe.2.2.1 hcb s.l
 rw [← hK]
 have D0 : Hid (Evi hs cx p w g s ns q K 0 p w c none 0 []) := ⟨Nat.zero_le _, by simp, Evd.nil _ _ _, Step.refl _ _, by simpa using h⟩
 have HO := Lib.hid (Ue.oldest_same h.lo.rc)
 rw [h.r] at HO
 obtain ⟨g0, g1, g2, g3, g4, g5⟩ := Ik.Lo.six h.lo
 have HE : Hid (∀ p1 v c1 A n l J, Evi hs cx p w g s ns q K J p1 v c1 A n l → J = K → evictPost hs cx p w g s q K (.returned (.slice A J n)) v) := by
  intro p1 v c1 A n l J hE e
  subst e
  refine ⟨p1, c1, ns.drop J, A, n, l, ?_, hE.m, hE.d, hE.st, hE.b⟩
  have := congrArg List.length hE.m
  rw [List.length_map, List.length_take] at this
  rw [this, Nat.min_eq_left hKl]
 obtain ⟨P, hP⟩ : ∃ P, P = evictPost hs cx p w g s q K := ⟨_, rfl⟩
 rw [← hP] at HE ⊢
 obtain ⟨N, hN⟩ : ∃ N, N = s.l.length := ⟨_, rfl⟩
 rw [← hN] at hlen hsm hKl
 have HN := Lib.hid hN
 clear h hcb hbe hK hP hN g0 g1 g2 g4 g5
 go_enter Tryz.func69, Tryz.ntmps69
 go_wp2_with fail
 refine HO.out.mono ?_
 rintro e w1 ⟨rfl, rfl⟩
 clear g3
 go_wp2_with fail
 go_loopw [3, 4, 5] (fun u a b wr => ∃ J A' n' p1 c1 l, u = .slice A' J n' ∧ a = .int .i64 (Ua.oldV (iI (ns.drop J))) ∧ b = .int .i64 (Ua.oldN (iI (ns.drop J))) ∧ Hid (Evi hs cx p w1 g s ns q K J p1 wr c1 A' n' l)) (fun u _ _ _ => N - lenV u)
 case atStart => exact ⟨0, none, 0, p, c, [], rfl, rfl, rfl, D0⟩
 case round =>
  obtain ⟨J, A', n', p1, c1, l, rfl, rfl, rfl, EV⟩ := hrel
  have hle := EV.out.le
  have hrl := EV.out.b.rel.len
  have hlJ : l.length = J := by
   have := congrArg List.length EV.out.m
   rw [List.length_map, List.length_take] at this
   rw [this, ← HN.out]; omega
  by_cases hJ : J < ns.length
  ·have e1 : Ua.oldN (iI (ns.drop J)) = 0 := by unfold Ua.oldN; rw [if_neg (by unfold iI; simp; omega)]
   have hd : ns.drop J = ns[J] :: ns.drop (J + 1) := List.drop_eq_getElem_cons hJ
   have e2 : Ua.oldV (iI (ns.drop J)) = (ns[J] : Int) := by rw [hd]; rfl
   have HOV := Lib.hid (Ik.over_any EV.out.b.lo)
   have hov := over_is EV.out.b
   have hevq : (s.e < ((s.l.drop J).length : Int) + 1 ∨ s.b < (used (s.l.drop J) : Int) + cx) ↔ evQ s.b s.e cx s.l J := by
    unfold evQ
    rw [List.length_drop, ← HN.out]
    constructor
    ·rintro (h | h)
     ·exact Or.inl (by omega)
     ·exact Or.inr h
    ·rintro (h | h)
     ·exact Or.inl (by omega)
     ·exact Or.inr h
   by_cases hq : evQ s.b s.e cx s.l J
   ·have hJK : J < K := by
     rcases Nat.lt_or_ge J K with h | h
     ·exact h
     ·have : J = K := by omega
      rw [this] at hq; exact absurd hq HST.out
    rw [decide_eq_true (hov.2 (hevq.2 hq))] at HOV
    have hJ0 : 0 < (ns.drop J).length := by rw [List.length_drop]; omega
    have HTKA : Hid (∀ v p', Bt hs cx 1 p' v g { s with l := s.l.drop J } (ns.drop J) q c1 → Calls Tryz.prog 64 #[.pointer (some ⟨g, 0, none⟩), .int .i64 (ns[J] : Int)] v (takePost hs cx 1 p' v g { s with l := s.l.drop (J + 1) } (ns.drop (J + 1)) q (en c1.E ns[J]))) := fun v p' hv => by
     have h1 := take_any hv hJ0
     have h2 : (ns.drop J)[0]'hJ0 = ns[J] := by simp
     have h3 : wn (ns.drop J) ((ns.drop J)[0]'hJ0) = ns.drop (J + 1) := by
      rw [wn_at hv.rel.nd hJ0]; unfold wo; rw [List.take_zero, List.nil_append, Nat.zero_add, List.drop_drop]
     have h4 : wo (s.l.drop J) 0 = s.l.drop (J + 1) := by unfold wo; rw [List.take_zero, List.nil_append, Nat.zero_add, List.drop_drop]
     rw [h3, h2] at h1
     simp only at h1
     rw [h4] at h1
     exact h1
    have HSE : Hid (s.l.take J ++ [en c1.E ns[J]] = s.l.take (J + 1)) := by
     show _ = _
     have hJl : J < s.l.length := by rw [← HN.out]; omega
     rw [List.take_succ_eq_append_getElem hJl]
     have h1 := EV.out.b.rel.get hJ0
     simp only [List.getElem_drop, Nat.add_zero] at h1
     rw [h1]
    obtain ⟨m, hm⟩ : ∃ m : Nat, m = ns[J] := ⟨_, rfl⟩
    rw [← hm] at e2 HSE HTKA
    rw [e1, e2]
    clear e1 e2 hd hov hevq hq hm hJ0 HO
    go_wp2_with fail
    refine HOV.out.mono ?_
    rintro _ v1 ⟨rfl, b1⟩
    have HB1 := Lib.hid (show Bt hs cx 1 (col p1 0 wr.heap.size) v1 g _ _ q c1 from ⟨EV.out.b.lo.below b1 0, EV.out.b.rel, EV.out.b.r, EV.out.b.m⟩)
    have HD1 := Lib.hid (EV.out.d.step (Step.below b1 0))
    have HS1 := Lib.hid (EV.out.st.trans (Step.below b1 0))
    clear b1 HOV
    obtain ⟨p2, hp2⟩ : ∃ p2, p2 = col p1 0 wr.heap.size := ⟨_, rfl⟩
    rw [← hp2] at HB1 HD1 HS1
    clear hp2
    have HTK := Lib.hid (HTKA.out v1 p2 HB1.out)
    go_wp2_with fail
    refine HTK.out.mono ?_
    rintro _ v2 ⟨p3, y, c3, rfl, hye, gy, S3, B3⟩
    have hz2 := S3.on.size
    have hz1 := HS1.out.on.size
    have HG3 := Lib.hid (gy.back hz1)
    have HYA : Hid (∀ a, A' = some a → ¬ El.Rows y a.block) := fun a ha hr => by
     have h1 := (HD1.out.mi.base ha).2.1
     have h2 := (gy.rows hr).1
     omega
    have HD3 := Lib.hid (HD1.out.step S3)
    have HS3 := Lib.hid (HS1.out.trans S3)
    have HB3 := Lib.hid B3
    have HYE := Lib.hid hye
    have HM3 := Lib.hid (HD3.out.mi.below (bnew v2 (.cells (emA y) 42)) (Nat.le_refl _))
    have HSR := Lib.hid (src_one v2 y)
    unfold emA at HM3 HSR
    have hsz : w1.heap.size ≤ v2.heap.size := by omega
    rw [hlJ] at HM3
    have HLJ := Lib.hid hlJ
    clear hye gy S3 B3 HTK hlJ
    unfold emV
    go_wp2_with (at_builtin; (refine wpList_mine rfl _ _ elE _ rfl rfl HM3.out _ rfl 1 _ HSR.out (by omega) (by omega) (by simp; omega) ?_))
    intro A5 n5 w5 m5 g5' q5
    obtain ⟨hd5, ho5⟩ := HD3.out.push HG3.out HYA.out (by rw [HLJ.out]; exact m5) g5' q5
    have HD5 := Lib.hid hd5
    have hst5 : Step p3 v2 (col p3 0 v2.heap.size) w5 → True := fun _ => trivial
    have HS5 : Hid (Step p w1 (col p3 0 v2.heap.size) w5) := by
     refine ⟨fun j hj => ?_, HS3.out.on.trans (ho5.mono fun j _ hj => ?_)⟩
     ·rw [col_lt (by omega)]; exact HS3.out.eq j hj
     ·obtain ⟨a, ha, rfl⟩ := hj; exact Or.inr (HD3.out.mi.base ha).1
    have HB5 := Lib.hid (show Bt hs cx 1 (col p3 0 v2.heap.size) w5 g _ _ q c3 from ⟨HB3.out.lo.keep ho5 (fun j _ hj hf => by obtain ⟨a, ha, rfl⟩ := hf; exact hj (HD3.out.pz a ha)) (fun _ hj => col_lt hj), HB3.out.rel, HB3.out.r, HB3.out.m⟩)
    obtain ⟨g0, g1, g2, g3, g4, g5⟩ := Ik.Lo.six HB5.out.lo
    have HO := Lib.hid (Ue.oldest_same HB5.out.lo.rc)
    rw [HB5.out.r] at HO
    clear m5 g5' q5 hd5 ho5 hst5 g0 g1 g2 g4 g5
    go_wp2_with fail
    refine HO.out.mono ?_
    rintro e w6 ⟨rfl, rfl⟩
    clear g3
    go_wp2_with fail
    go_roundw
    case rel =>
     refine ⟨J + 1, A5, n5, col p3 0 v2.heap.size, c3, l ++ [y], rfl, rfl, rfl, Lib.hid ⟨hJK, ?_, HD5.out, HS5.out, ?_⟩⟩
     ·rw [List.map_append, EV.out.m, List.map_cons, List.map_nil, HYE.out]; exact HSE.out
     ·exact HB5.out
    case measure => simp [lenV]; omega
   ·have hJK : Hid (J = K) := by
     show J = K
     rcases Nat.lt_or_ge J K with h | h
     ·exact absurd (HGO.out J h) hq
     ·omega
    rw [decide_eq_false (fun h => hq (hevq.1 (hov.1 h)))] at HOV
    rw [e1]
    clear e1 e2 hd hov hevq hq HO
    go_wp2_with fail
    refine HOV.out.mono ?_
    rintro _ v1 ⟨rfl, b1⟩
    have HFN := Lib.hid (HE.out (col p1 0 wr.heap.size) v1 c1 A' n' l J ⟨EV.out.le, EV.out.m, EV.out.d.step (Step.below b1 0), EV.out.st.trans (Step.below b1 0), EV.out.b.lo.below b1 0, EV.out.b.rel, EV.out.b.r, EV.out.b.m⟩ hJK.out)
    clear b1
    go_wp2_with fail
    exact HFN.out
  ·have e1 : Ua.oldN (iI (ns.drop J)) = 9 := by unfold Ua.oldN; rw [if_pos (by unfold iI; simp; omega)]
   have HFN := Lib.hid (HE.out p1 wr c1 A' n' l J EV.out (by omega))
   rw [e1]
   clear e1 HO
   go_wp2_with fail
   exact HFN.out
end
end Go.Proofs.YtlmljhnogmfcfaaGreat.Ig
namespace Go.Proofs.YtlmljhnogmfcfaaGreat.Ep
open Go.RowKit Ap Mi Nw Ea Eb Ec Ed Ee El Ia Ib Ic Ik Ie If Ig

abbrev Ok (s : Sx) : Prop := Ia.Ok s
structure St (F : Nat → Prop) (w : World) (g : Nat) (s : Sx) : Prop where
 has : ∃ p ns q c, Bt (fun _ => True) 0 0 p w g s ns q c ∧ ∀ j, j < w.heap.size → p j ≠ 0 → F j
section
variable {F F' : Nat → Prop} {w w' : World} {g : Nat} {s : Sx}
theorem St.ok (h : St F w g s) : Ok s := by obtain ⟨p, ns, q, c, hb, _⟩ := h.has; exact hb.rel.ok
theorem St.mono (h : St F w g s) (hFG : ∀ j, j < w.heap.size → F j → F' j) : St F' w g s := by
 obtain ⟨p, ns, q, c, hb, hf⟩ := h.has
 exact ⟨p, ns, q, c, hb, fun j hj hp => hFG j hj (hf j hj hp)⟩
theorem St.only (h : St F w g s) (ho : Only F' w w') (hn : ∀ j, F j → ¬ F' j) : St F w' g s := by
 obtain ⟨p, ns, q, c, hb, hf⟩ := h.has
 refine ⟨col p 0 w.heap.size, ns, q, c, ⟨hb.lo.keep ho (fun j hj hp => hn j (hf j hj hp)) (fun _ hj => col_lt hj), hb.rel, hb.r, hb.m⟩, fun j _ hp => ?_⟩
 rcases Nat.lt_or_ge j w.heap.size with h1 | h1
 ·rw [col_lt h1] at hp; exact hf j h1 hp
 ·rw [col_ge h1] at hp; exact absurd rfl hp
theorem St.below (h : St F w g s) (hb : Below w.heap.size w w') : St F w' g s := h.only (Only.of_below hb (Nat.le_refl _) (fun _ => False)) (fun _ _ hf => hf)
theorem St.tight (h : St F w g s) : St (fun j => F j ∧ j < w.heap.size) w g s := h.mono fun _ hj hf => ⟨hf, hj⟩
structure Hd (P : Nat → Prop) (w : World) (A : Option Addr) (c : Nat) (l : List Em) : Prop where
 r : RL P w A c l
 w : ∀ x ∈ l, Wr w x
 a : ∀ a, A = some a → ¬ RowsL l a.block
structure Gave (F : Nat → Prop) (w w' : World) (g : Nat) (s : Sx) (F' P : Nat → Prop) : Prop where
 s : St F' w' g s
 f : ∀ j, F' j → More F w j
 p : ∀ j, P j → More F w j
 d : ∀ j, P j → ¬ F' j
 o : Only F w w'
def putPost (F : Nat → Prop) (w : World) (g : Nat) (s' : Sx) (L : List En) (n : Int) : Ending → World → Prop := fun q w' => ∃ F' P A c l, q = .returned (.tuple #[.slice A l.length c, .int .i64 n]) ∧ l.map Em.e = L ∧ Hd P w' A c l ∧ Gave F w w' g s' F' P
def gotPost (F : Nat → Prop) (w : World) (g : Nat) (s' : Sx) (e : En) (n : Int) : Ending → World → Prop := fun q w' => ∃ F' P y, q = .returned (.tuple #[emV y, .int .i64 n]) ∧ y.e = e ∧ RE P w' y ∧ Wr w' y ∧ Gave F w w' g s' F' P
def touPost (F : Nat → Prop) (w : World) (g : Nat) (s' : Sx) (n : Int) : Ending → World → Prop := fun q w' => ∃ F', q = .returned (.int .i64 n) ∧ Gave F w w' g s' F' (fun _ => False)
def expPost (F : Nat → Prop) (w : World) (g : Nat) (s' : Sx) (L : List En) : Ending → World → Prop := fun q w' => ∃ F' P A c l, q = .returned (.slice A l.length c) ∧ l.map Em.e = L ∧ Hd P w' A c l ∧ Gave F w w' g s' F' P
def newPost (w : World) (s : Sx) : Ending → World → Prop := fun q w' => ∃ g F', q = .returned (.tuple #[.pointer (some ⟨g, 0, none⟩), .int .i64 0]) ∧ St F' w' g s ∧ (∀ j, F' j → w.heap.size ≤ j) ∧ Below w.heap.size w w'
def keysPost (w : World) (l : List ByteArray) : Ending → World → Prop := fun q w' => ∃ A c, q = .returned (.slice A l.length c) ∧ Rs w' 1 A l.length c (strs l) ∧ Below w.heap.size w w'
variable {p p' : Nat → Nat} {ns : List Nat} {q : Ptr} {c : Ct}
def nF (p' : Nat → Nat) (w' : World) (j : Nat) : Prop := p' j ≠ 0 ∧ j < w'.heap.size
def nP (p' : Nat → Nat) (w : World) (j : Nat) : Prop := p' j = 0 ∧ w.heap.size ≤ j
theorem gave (hF : ∀ j, j < w.heap.size → p j ≠ 0 → F j) (S : Step p w p' w') (B : Bt (fun _ => True) 0 0 p' w' g s ns q c) : Gave F w w' g s (nF p' w') (nP p' w) where
 s := ⟨p', ns, q, c, B, fun _ hj h => ⟨h, hj⟩⟩
 f := fun j hj => by
  rcases Nat.lt_or_ge j w.heap.size with h1 | h1
  ·exact Or.inl (hF j h1 (by rw [← S.eq j h1]; exact hj.1))
  ·exact Or.inr h1
 p := fun j hj => Or.inr hj.2
 d := fun j hj hf => hf.1 hj.1
 o := S.on0.mono hF
def Hf (K F : Nat → Prop) (p : Nat → Nat) (w : World) : Prop := (∀ j, j < w.heap.size → p j ≠ 0 → F j) ∧ ∀ j, K j → j < w.heap.size ∧ (p j = 0 ∨ p j = 8)
structure Sg (K F : Nat → Prop) (w : World) (g : Nat) (s : Sx) : Prop where
 has : ∃ p ns q c, Bt (fun _ => True) 0 0 p w g s ns q c ∧ Hf K F p w
structure Gav (K F : Nat → Prop) (w w' : World) (g : Nat) (s : Sx) (F' P : Nat → Prop) : Prop where
 v : Gave F w w' g s F' P
 s : Sg K F' w' g s
 k : Only (fun j => ¬ K j) w w'
def putH (K F : Nat → Prop) (w : World) (g : Nat) (s' : Sx) (L : List En) (n : Int) : Ending → World → Prop := fun q w' => ∃ F' P A c l, q = .returned (.tuple #[.slice A l.length c, .int .i64 n]) ∧ l.map Em.e = L ∧ Hd P w' A c l ∧ Gav K F w w' g s' F' P
def gotH (K F : Nat → Prop) (w : World) (g : Nat) (s' : Sx) (e : En) (n : Int) : Ending → World → Prop := fun q w' => ∃ F' P y, q = .returned (.tuple #[emV y, .int .i64 n]) ∧ y.e = e ∧ RE P w' y ∧ Wr w' y ∧ Gav K F w w' g s' F' P
theorem Sg.st {K : Nat → Prop} (h : Sg K F w g s) : St F w g s := by obtain ⟨p, ns, q, c, hb, hf⟩ := h.has; exact ⟨p, ns, q, c, hb, hf.1⟩
theorem St.sg (h : St F w g s) : Sg (fun _ => False) F w g s := by obtain ⟨p, ns, q, c, hb, hf⟩ := h.has; exact ⟨p, ns, q, c, hb, hf, fun _ hj => hj.elim⟩
theorem Sg.ok {K : Nat → Prop} (h : Sg K F w g s) : Ok s := h.st.ok
theorem Sg.only {K : Nat → Prop} (h : Sg K F w g s) (ho : Only F' w w') (hn : ∀ j, F j → ¬ F' j) : Sg K F w' g s := by
 obtain ⟨p, ns, q, c, hb, hf⟩ := h.has
 refine ⟨col p 0 w.heap.size, ns, q, c, ⟨hb.lo.keep ho (fun j hj hp => hn j (hf.1 j hj hp)) (fun _ hj => col_lt hj), hb.rel, hb.r, hb.m⟩, fun j _ hp => ?_, fun j hj => ?_⟩
 ·rcases Nat.lt_or_ge j w.heap.size with h1 | h1
  ·rw [col_lt h1] at hp; exact hf.1 j h1 hp
  ·rw [col_ge h1] at hp; exact absurd rfl hp
 ·obtain ⟨h1, h2⟩ := hf.2 j hj
  rw [col_lt h1]; exact ⟨Nat.lt_of_lt_of_le h1 ho.size, h2⟩
theorem Sg.below {K : Nat → Prop} (h : Sg K F w g s) (hb : Below w.heap.size w w') : Sg K F w' g s := h.only (Only.of_below hb (Nat.le_refl _) (fun _ => False)) (fun _ _ hf => hf)
theorem Sg.tight {K : Nat → Prop} (h : Sg K F w g s) : Sg K (fun j => F j ∧ j < w.heap.size) w g s := by
 obtain ⟨p, ns, q, c, hb, hf⟩ := h.has
 exact ⟨p, ns, q, c, hb, fun j hj hp => ⟨hf.1 j hj hp, hj⟩, hf.2⟩
theorem gavg {K : Nat → Prop} (hF : Hf K F p w) (S : Step p w p' w') (B : Bt (fun _ => True) 0 0 p' w' g s ns q c) : Gav K F w w' g s (nF p' w') (nP p' w) where
 v := gave hF.1 S B
 s := ⟨p', ns, q, c, B, fun _ hj h => ⟨h, hj⟩, fun j hj => by
  obtain ⟨h1, h2⟩ := hF.2 j hj
  rw [S.eq j h1]; exact ⟨Nat.lt_of_lt_of_le h1 S.on.size, h2⟩⟩
 k := S.on.mono fun j _ h1 hj => by
  rcases (hF.2 j hj).2 with h2 | h2
  ·exact h1.1 h2
  ·exact h1.2 h2
theorem Evd.hd {A : Option Addr} {n : Nat} {l : List Em} (h : Evd p' w w' A n l) : Hd (nP p' w) w' A n l :=
 ⟨⟨Rs.mine h.mi, fun a ha => ⟨h.pz a ha, (h.mi.base ha).1⟩, fun x hx => (h.gv x hx).re⟩, fun x hx => El.OwE.wr (h.gv x hx).ow, h.ap⟩
theorem Hd.nil {P : Nat → Prop} : Hd P w none 0 [] := ⟨RL.nil, (fun _ h => by cases h), (fun _ e => by cases e)⟩
theorem gave_same (h : St F w g s) (hb : Below w.heap.size w w') : Gave F w w' g s (fun j => F j ∧ j < w.heap.size) (fun _ => False) :=
 ⟨h.tight.only (Only.of_below hb (Nat.le_refl _) (fun _ => False)) (fun _ _ hf => hf), fun _ hj => Or.inl hj.1, fun _ hj => hj.elim, fun _ hj => hj.elim, Only.of_below hb (Nat.le_refl _) _⟩
theorem gavg_same {K : Nat → Prop} (h : Sg K F w g s) (hb : Below w.heap.size w w') : Gav K F w w' g s (fun j => F j ∧ j < w.heap.size) (fun _ => False) :=
 ⟨gave_same h.st hb, h.tight.below hb, Only.of_below hb (Nat.le_refl _) _⟩
end
end Go.Proofs.YtlmljhnogmfcfaaGreat.Ep
