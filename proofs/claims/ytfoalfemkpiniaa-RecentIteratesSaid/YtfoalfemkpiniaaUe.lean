/- Proves the contracts of the methods of the program's order of use, as the laws' walks take them. Conditions: as each theorem names them. -/
import Derived.Test.YtfoalfemkpiniaaUc
import Derived.Test.YtfoalfemkpiniaaUd
import Derived.Test.YtfoalfemkpiniaaWd
import Derived.Laws.MakeOwn
import Derived.OwnWalk
namespace Go.Proofs.Ytfoalfemkpiniaa.Ue
open Go.RowKit Go.Maps Ap Mi Nw Ua Ub Uc Uh Uk Wm Wa Wb Wc

/-- The order in block g, all its blocks in F, is L. -/
structure Rc (F : Nat → Prop) (w : World) (g : Nat) (L : List Int) : Prop where
  has : ∃ (B A : Nat) (DB DA : DataW Unit) (b a : Int → Int), Lo w g B A DB DA ∧ (F g ∧ F B ∧ F A) ∧ Md DB (pr L) (L.length + 1) b ∧ Md DA (pr L) (L.length + 1) a ∧ Ring a b L
  nd : L.Nodup
  sl : ∀ n ∈ L, Sl n
section
variable {F F' : Nat → Prop} {w w' : World} {g : Nat} {L : List Int}
theorem Lo.lts {w : World} {g B A : Nat} {DB DA : DataW Unit} (h : Lo w g B A DB DA) : g < w.heap.size ∧ B < w.heap.size ∧ A < w.heap.size := ⟨h.bk.lt, h.ob.lt, h.oa.lt⟩
theorem Rc.lt (h : Rc F w g L) : g < w.heap.size := by obtain ⟨B, A, DB, DA, b, a, h1, _⟩ := h.has; exact h1.bk.lt
theorem Rc.inF (h : Rc F w g L) : F g := by obtain ⟨B, A, DB, DA, b, a, _, h1, _⟩ := h.has; exact h1.1
theorem Rc.mono (h : Rc F w g L) (hFG : ∀ j, j < w.heap.size → F j → F' j) : Rc F' w g L := by
  obtain ⟨⟨B, A, DB, DA, b, a, h1, h2, h3⟩, h5, h6⟩ := h
  obtain ⟨l1, l2, l3⟩ := Lo.lts h1
  exact ⟨⟨B, A, DB, DA, b, a, h1, ⟨hFG _ l1 h2.1, hFG _ l2 h2.2.1, hFG _ l3 h2.2.2⟩, h3⟩, h5, h6⟩
theorem Rc.tight (h : Rc F w g L) : Rc (fun j => F j ∧ j < w.heap.size) w g L := h.mono fun _ hj hf => ⟨hf, hj⟩
theorem Rc.only (h : Rc F w g L) (ho : Only F' w w') (hn : ∀ j, F j → ¬ F' j) : Rc F w' g L := by
  obtain ⟨⟨B, A, DB, DA, b, a, h1, h2, h3⟩, h5, h6⟩ := h
  exact ⟨⟨B, A, DB, DA, b, a, h1.kept ho (hn _ h2.1) (hn _ h2.2.1) (hn _ h2.2.2), h2, h3⟩, h5, h6⟩
theorem Rc.below {B : Nat} (h : Rc F w g L) (hb : Below B w w') (hB : w.heap.size ≤ B) : Rc F w' g L :=
  h.only (Only.of_below hb hB (fun _ => False)) (fun _ _ hf => hf)
/-- What a call leaves that may write. -/
def wrPost (F : Nat → Prop) (w : World) (g : Nat) (L : List Int) (e0 : Int) : Ending → World → Prop := fun e w' => e = .returned (.int .i64 e0) ∧ Rc (More F w) w' g L ∧ Only F w w'
/-- What a call leaves that makes an order. -/
def mkPost (w : World) (L : List Int) : Ending → World → Prop := fun e w' => ∃ g, e = .returned (.pointer (some ⟨g, 0, none⟩)) ∧ Rc (fun j => w.heap.size ≤ j) w' g L ∧ Below w.heap.size w w'
/-- What a call leaves that only looks. -/
def lkPost (w : World) (v : Value) : Ending → World → Prop := fun e w' => e = .returned v ∧ Below w.heap.size w w'
theorem lk_same {w : World} {v : Value} {f : Nat} {args : Array Value} (h : Calls Try.prog f args w fun e w' => e = .returned v ∧ w' = w) : Calls Try.prog f args w (lkPost w v) := by
  refine h.mono ?_
  rintro e w' ⟨rfl, rfl⟩
  exact ⟨rfl, Below.refl _ _⟩
theorem no_m1 (hs : ∀ n ∈ L, Sl n) : (-1 : Int) ∉ L := fun h => by have := (hs _ h).1; omega
theorem pr_in (hs : ∀ n ∈ L, Sl n) {n : Int} (h : n ∈ -1 :: L) : In n := by
  rcases List.mem_cons.1 h with h | h
  · rw [h]; exact in_m1
  · exact in_sl (hs _ h)
theorem pr_mem {n : Int} (h : n ∈ -1 :: L) : pr L n := by
  rcases List.mem_cons.1 h with h | h
  · exact Or.inl h
  · exact Or.inr h
/-- A number that was not there comes to the end. -/
theorem md_push {DB DA : DataW Unit} {b a : Int → Int} {n p : Int} (hB : Md DB (pr L) (L.length + 1) b) (hA : Md DA (pr L) (L.length + 1) a) (hR : Ring a b L) (hd : L.Nodup) (hs : ∀ n ∈ L, Sl n) (hn : n ∉ L) (hn1 : Sl n) (hp : b (-1) = p) :
    ∃ b' a', Md ((DB.put (kl n) (.lit (.int .i64 p))).put (kl (-1)) (.lit (.int .i64 n))) (pr (L ++ [n])) ((L ++ [n]).length + 1) b' ∧ Md ((DA.put (kl p) (.lit (.int .i64 n))).put (kl n) (.lit (.int .i64 (-1)))) (pr (L ++ [n])) ((L ++ [n]).length + 1) a' ∧ Ring a' b' (L ++ [n]) := by
  have hnm : n ≠ -1 := by have := hn1.1; omega
  have hnp : ¬ pr L n := fun h => h.elim hnm hn
  obtain ⟨hr, hpm⟩ := hR.push hd (no_m1 hs) hn hnm hp
  have e : ∀ m, (m = n ∨ pr L m) ↔ pr (L ++ [n]) m := fun m => by unfold pr; simp only [List.mem_append, List.mem_singleton]; constructor <;> (intro h; rcases h with h | h | h <;> simp [h])
  refine ⟨_, _, ((hB.put_new hnp p).put_old (n := -1) (Or.inr (Or.inl rfl)) n).ext e (by simp) (fun _ _ => rfl), ((hA.put_old (pr_mem hpm) n).put_new hnp (-1)).ext e (by simp) (fun _ _ => rfl), hr⟩
/-- A number that was taken out of the ring, which the maps still know, comes to the end. -/
theorem md_again {DB DA : DataW Unit} {b a : Int → Int} {n p : Int} (hB : Md DB (pr L) (L.length + 1) b) (hA : Md DA (pr L) (L.length + 1) a) (hR : Ring a b (wo L n)) (hd : L.Nodup) (hs : ∀ n ∈ L, Sl n) (hn : n ∈ L) (hp : b (-1) = p) :
    ∃ b' a', Md ((DB.put (kl n) (.lit (.int .i64 p))).put (kl (-1)) (.lit (.int .i64 n))) (pr (wo L n ++ [n])) ((wo L n ++ [n]).length + 1) b' ∧ Md ((DA.put (kl p) (.lit (.int .i64 n))).put (kl n) (.lit (.int .i64 (-1)))) (pr (wo L n ++ [n])) ((wo L n ++ [n]).length + 1) a' ∧ Ring a' b' (wo L n ++ [n]) := by
  have hnm : n ≠ -1 := by have := (hs n hn).1; omega
  have hn' : n ∉ wo L n := fun h => (mem_wo.1 h).2 rfl
  have hs' : ∀ m ∈ wo L n, Sl m := fun m h => hs m (mem_wo.1 h).1
  obtain ⟨hr, hpm⟩ := hR.push (hd.sublist (wo_sub L n)) (no_m1 hs') hn' hnm hp
  have e : ∀ m, pr L m ↔ pr (wo L n ++ [n]) m := fun m => by
    unfold pr
    simp only [List.mem_append, List.mem_singleton, mem_wo]
    by_cases h : m = n
    · subst h; simp [hn]
    · simp [h]
  have hl := wo_length hd hn
  have hpp : pr L p := by
    rcases List.mem_cons.1 hpm with h | h
    · exact Or.inl h
    · exact Or.inr (mem_wo.1 h).1
  refine ⟨_, _, ((hB.put_old (Or.inr hn) p).put_old (n := -1) (Or.inl rfl) n).ext e (by simp; omega) (fun _ _ => rfl), ((hA.put_old hpp n).put_old (Or.inr hn) (-1)).ext e (by simp; omega) (fun _ _ => rfl), hr⟩
/-- A number is taken out of the ring. -/
theorem md_bridge {DB DA : DataW Unit} {b a : Int → Int} {n p s : Int} (hB : Md DB (pr L) (L.length + 1) b) (hA : Md DA (pr L) (L.length + 1) a) (hR : Ring a b L) (hd : L.Nodup) (hs : ∀ n ∈ L, Sl n) (hn : n ∈ L) (hp : b n = p) (hq : a n = s) :
    ∃ b' a', Md (DB.put (kl s) (.lit (.int .i64 p))) (pr L) (L.length + 1) b' ∧ Md (DA.put (kl p) (.lit (.int .i64 s))) (pr L) (L.length + 1) a' ∧ Ring a' b' (wo L n) ∧ In p ∧ In s := by
  obtain ⟨hr, hpm, hsm⟩ := hR.bridge hd (no_m1 hs) hn hp hq
  exact ⟨_, _, hB.put_old (pr_mem hsm) p, hA.put_old (pr_mem hpm) s, hr, pr_in hs hpm, pr_in hs hsm⟩
theorem md_drop {D : DataW Unit} {b : Int → Int} {n : Int} (hB : Md D (pr L) (L.length + 1) b) (hd : L.Nodup) (hs : ∀ n ∈ L, Sl n) (hn : n ∈ L) : Md (D.del (kl n)) (pr (wo L n)) ((wo L n).length + 1) b := by
  have hl := wo_length hd hn
  have hnm : n ≠ -1 := by have := (hs n hn).1; omega
  have h := Md.del (k := (wo L n).length + 1) (by rw [hl]; exact hB) (n := n) (Or.inr hn)
  refine h.ext (fun m => ?_) rfl (fun _ _ => rfl)
  unfold pr
  rw [mem_wo]
  by_cases e : m = -1
  · subst e; simp; exact fun h => hnm h.symm
  · simp [e]
end
section
variable {F : Nat → Prop} {w : World} {g : Nat} {L : List Int}
set_option maxRecDepth 100000 in
theorem new_any (w : World) : Calls Try.prog 9 #[] w (mkPost w []) := by
  have hmm := @run_makeMap Try.prog
  obtain ⟨v, hv⟩ : ∃ v, v = ((w.alloc (.map #[] 0)).alloc (.map #[] 0)).alloc (.cells #[.map (some w.heap.size), .map (some (w.heap.size + 1))] 45) := ⟨_, rfl⟩
  have HB : Hid (Below w.heap.size w v) := by show Below _ _ _; rw [hv]; exact ((bnew w _).alloc (by simp) _).alloc (by simp; omega) _
  have HL : Hid (Lo v (w.heap.size + 1 + 1) w.heap.size (w.heap.size + 1) (.map []) (.map [])) := by
    have e1 : ((w.alloc (.map #[] 0)).alloc (.map #[] 0)).heap.size = w.heap.size + 1 + 1 := by simp
    have e0 : (w.alloc (.map #[] 0)).heap.size = w.heap.size + 1 := by simp
    refine ⟨?_, ?_, ?_, by omega, by omega, by omega⟩
    · have := Blk.new ((w.alloc (.map #[] 0)).alloc (.map #[] 0)) #[.map (some w.heap.size), .map (some (w.heap.size + 1))] 45
      rw [e1] at this; rw [hv]; exact this
    · rw [hv]
      exact Own.of (((made w).kept ((Only.refl (fun _ => False) _).alloc _) (fun h => h)).kept ((Only.refl (fun _ => False) _).alloc _) (fun h => h))
    · have := made (w.alloc (.map #[] 0))
      rw [e0] at this
      rw [hv]
      exact Own.of (this.kept ((Only.refl (fun _ => False) _).alloc _) (fun h => h))
  have HJ := Lib.hid (join_any HL.out (-1) (-1) in_m1 in_m1 (by show 0 ≤ 2000000; omega) (by show 0 ≤ 2000000; omega))
  unfold joinPost at HJ
  unfold mkPost
  go_enter Try.func9, Try.ntmps9
  go_wp2_with fail
  rw [← hv]
  clear hv hmm
  refine HJ.out.mono ?_
  rintro e w1 ⟨rfl, hlo, ho⟩
  have HO := Lib.hid hlo
  have HB1 : Hid (Below w.heap.size w w1) := HB.out.trans (ho.below (fun j hj => by rcases hj with hj | hj <;> omega) HB.out.size)
  clear hlo ho HJ
  go_wp2_with fail
  go_ret
  refine ⟨_, rfl, ⟨⟨_, _, _, _, upd id (-1) (-1), upd id (-1) (-1), HO.out, ⟨by show _ ≤ _; omega, Nat.le_refl _, by omega⟩, ?_, ?_, ring_nil⟩, List.Pairwise.nil, by simp⟩, HB1.out⟩
  · exact ((md_nil (f := id)).put_new (fun h => h) (-1)).ext (fun m => by unfold pr; simp) rfl (fun _ _ => rfl)
  · exact ((md_nil (f := id)).put_new (fun h => h) (-1)).ext (fun m => by unfold pr; simp) rfl (fun _ _ => rfl)
/-- An order as two maps, with what they say. -/
theorem Rc.sizes (h : Rc F w g L) : L.length ≤ 1048576 := slots_len h.nd h.sl
set_option maxRecDepth 100000 in
theorem add_any (h : Rc F w g L) (n : Int) : Calls Try.prog 16 #[.pointer (some ⟨g, 0, none⟩), .int .i64 n] w (wrPost F w g (addT L n) (addN L n)) := by
  have hz := h.sizes
  have HR := Lib.hid h
  obtain ⟨⟨B, A, DB, DA, b, a, hlo, hF, hB, hA, hR⟩, hd, hs⟩ := h
  have HK := Lib.hid (look_any hlo hA n)
  unfold wrPost
  by_cases hsl : Sl n
  · by_cases hl : n ∈ L
    · have e1 : lokB L n = true := by unfold lokB; simp [hsl, hl]
      have e2 : lokN n = 0 := by unfold lokN; rw [if_pos hsl]
      have e3 : addN L n = 11 := by unfold addN; rw [if_neg (by simpa using hsl), if_pos hl]
      have e4 : addT L n = L := by unfold addT; rw [if_neg (fun h => h.2 hl)]
      rw [e1, e2] at HK
      rw [e3, e4]
      clear e1 e2 e3 e4 hsl hl hlo hF hB hA hR hd hs hz
      go_enter Try.func16, Try.ntmps16
      go_wp2_with fail
      refine HK.out.mono ?_
      rintro e w1 ⟨rfl, rfl⟩
      go_wp2_with fail
      go_ret
      exact ⟨rfl, HR.out.mono fun _ _ h => Or.inl h, Only.refl _ _⟩
    · have e1 : lokB L n = false := by unfold lokB; simp [hl]
      have e2 : lokN n = 0 := by unfold lokN; rw [if_pos hsl]
      have e3 : addN L n = 0 := by unfold addN; rw [if_neg (by simpa using hsl), if_neg hl]
      have e4 : addT L n = L ++ [n] := by unfold addT; rw [if_pos ⟨hsl, hl⟩]
      rw [e1, e2] at HK
      rw [e3, e4]
      obtain ⟨p, hp⟩ : ∃ p, b (-1) = p := ⟨_, rfl⟩
      have hpi : In p := pr_in hs (hR.push hd (no_m1 hs) hl (by have := hsl.1; omega) hp).2
      have HM := Lib.hid (md_push hB hA hR hd hs hl hsl hp)
      have HP := Lib.hid (push_any hlo n p (in_sl hsl) hpi (by rw [hB.val (-1) (Or.inl rfl), hp]) (by rw [hB.sz]; omega) (by rw [hA.sz]; omega))
      unfold joinPost at HP
      have HN : Hid ((L ++ [n]).Nodup ∧ ∀ m ∈ L ++ [n], Sl m) := ⟨List.nodup_append.2 ⟨hd, by simp, fun a ha b hb e => hl (by rw [List.mem_singleton.1 hb] at e; rw [← e]; exact ha)⟩, fun m hm => by
        rcases List.mem_append.1 hm with h | h
        · exact hs m h
        · rw [List.mem_singleton.1 h]; exact hsl⟩
      have HF := Lib.hid hF
      clear e1 e2 e3 e4 hsl hl hlo hF hB hA hR hd hs hz hp hpi
      go_enter Try.func16, Try.ntmps16
      go_wp2_with fail
      refine HK.out.mono ?_
      rintro e w1 ⟨rfl, rfl⟩
      go_wp2_with fail
      refine HP.out.mono ?_
      rintro e w2 ⟨rfl, hlo, ho⟩
      have HL2 := Lib.hid hlo; have HO2 := Lib.hid ho
      clear hlo ho HP HK
      go_wp2_with fail
      go_ret
      obtain ⟨b', a', m1, m2, m3⟩ := HM.out
      exact ⟨rfl, ⟨⟨B, A, _, _, b', a', HL2.out, ⟨Or.inl HF.out.1, Or.inl HF.out.2.1, Or.inl HF.out.2.2⟩, m1, m2, m3⟩, HN.out.1, HN.out.2⟩, HO2.out.mono fun j _ hj => by
        rcases hj with hj | hj
        · rw [hj]; exact HF.out.2.1
        · rw [hj]; exact HF.out.2.2⟩
  · have e1 : lokB L n = false := by unfold lokB; simp [hsl]
    have e2 : lokN n = 2 := by unfold lokN; rw [if_neg hsl]
    have e3 : addN L n = 2 := by unfold addN; rw [if_pos hsl]
    have e4 : addT L n = L := by unfold addT; rw [if_neg (fun h => hsl h.1)]
    rw [e1, e2] at HK
    rw [e3, e4]
    clear e1 e2 e3 e4 hsl hlo hF hB hA hR hd hs hz
    go_enter Try.func16, Try.ntmps16
    go_wp2_with fail
    refine HK.out.mono ?_
    rintro e w1 ⟨rfl, rfl⟩
    go_wp2_with fail
    go_ret
    exact ⟨rfl, HR.out.mono fun _ _ h => Or.inl h, Only.refl _ _⟩
theorem rem_cases (L : List Int) (n : Int) (h : ¬ (Sl n ∧ n ∈ L)) : remT L n = L ∧ useT L n = L ∧ (remN L n != 0) = true := by
  refine ⟨by unfold remT; rw [if_neg h], by unfold useT; rw [if_neg h], ?_⟩
  unfold remN
  by_cases h1 : Sl n
  · rw [if_neg (by simpa using h1), if_neg (fun h2 => h ⟨h1, h2⟩)]; rfl
  · rw [if_pos h1]; rfl
theorem need_rc (h : Rc F w g L) (n : Int) : Calls Try.prog 34 #[.pointer (some ⟨g, 0, none⟩), .int .i64 n] w fun e w' => e = .returned (.int .i64 (remN L n)) ∧ w' = w := by
  obtain ⟨⟨B, A, DB, DA, b, a, hlo, hF, hB, hA, hR⟩, hd, hs⟩ := h
  exact need_any hlo hA n
/-- What bridge leaves. -/
def brPost (F : Nat → Prop) (w : World) (n : Int) (gg : Nat) (L : List Int) : Ending → World → Prop := fun e w' => e = .returned (.tuple #[]) ∧ (∃ (B A : Nat) (DB DA : DataW Unit) (b a : Int → Int), Lo w' gg B A DB DA ∧ (F gg ∧ F B ∧ F A) ∧ Md DB (pr L) (L.length + 1) b ∧ Md DA (pr L) (L.length + 1) a ∧ Ring a b (wo L n)) ∧ Only F w w'
theorem bridge_rc (h : Rc F w g L) (n : Int) (hn : n ∈ L) : Calls Try.prog 35 #[.pointer (some ⟨g, 0, none⟩), .int .i64 n] w (brPost F w n g L) := by
  have hz := h.sizes
  obtain ⟨⟨B, A, DB, DA, b, a, hlo, hF, hB, hA, hR⟩, hd, hs⟩ := h
  obtain ⟨b', a', m1, m2, m3, hp, hq⟩ := md_bridge hB hA hR hd hs hn rfl rfl
  refine (bridge_any hlo n (b n) (a n) (in_sl (hs n hn)) hp hq (hB.val n (Or.inr hn)) (hA.val n (Or.inr hn)) (by rw [hB.sz]; omega) (by rw [hA.sz]; omega)).mono ?_
  rintro e w' ⟨rfl, hlo', ho⟩
  refine ⟨rfl, ⟨B, A, _, _, b', a', hlo', hF, m1, m2, m3⟩, ho.mono fun j _ hj => ?_⟩
  rcases hj with hj | hj
  · rw [hj]; exact hF.2.1
  · rw [hj]; exact hF.2.2
/-- What Use and Remove leave: they make nothing for the order. -/
def wrS (F : Nat → Prop) (w : World) (g : Nat) (L : List Int) (e0 : Int) : Ending → World → Prop := fun e w' => e = .returned (.int .i64 e0) ∧ Rc F w' g L ∧ Only F w w'
theorem wrS_any {F : Nat → Prop} {w : World} {g f : Nat} {L : List Int} {e0 : Int} {args : Array Value} (h : Calls Try.prog f args w (wrS F w g L e0)) : Calls Try.prog f args w (wrPost F w g L e0) := by
  refine h.mono ?_
  rintro e w' ⟨rfl, h1, h2⟩
  exact ⟨rfl, h1.mono fun _ _ h => Or.inl h, h2⟩
set_option maxRecDepth 100000 in
theorem use_str (h : Rc F w g L) (n : Int) : Calls Try.prog 13 #[.pointer (some ⟨g, 0, none⟩), .int .i64 n] w (wrS F w g (useT L n) (remN L n)) := by
  have hz := h.sizes
  have HR := Lib.hid h
  have HK := Lib.hid (need_rc h n)
  unfold wrS
  by_cases hsl : Sl n ∧ n ∈ L
  · have e3 : remN L n = 0 := by unfold remN; rw [if_neg (by simpa using hsl.1), if_pos hsl.2]
    have e4 : useT L n = wo L n ++ [n] := by unfold useT; rw [if_pos hsl]
    rw [e3] at HK
    rw [e3, e4]
    have HG := Lib.hid (bridge_rc h n hsl.2)
    unfold brPost at HG
    have HNL := Lib.hid hsl
    have HZ := Lib.hid hz
    clear e3 e4 hsl hz h
    go_enter Try.func13, Try.ntmps13
    go_wp2_with fail
    refine HK.out.mono ?_
    rintro e w1 ⟨rfl, rfl⟩
    go_wp2_with fail
    refine HG.out.mono ?_
    rintro e w2 ⟨rfl, hbr, ho⟩
    have HO2 := Lib.hid ho
    clear ho HG HK
    obtain ⟨B, A, DB, DA, b, a, hlo, hF, hB, hA, hR⟩ := hbr
    obtain ⟨p, hp⟩ : ∃ p, b (-1) = p := ⟨_, rfl⟩
    have hd := HR.out.nd; have hs := HR.out.sl
    have hs' : ∀ m ∈ wo L n, Sl m := fun m h => hs m (mem_wo.1 h).1
    have hpi : In p := pr_in hs' (hR.push (hd.sublist (wo_sub L n)) (no_m1 hs') (fun h => (mem_wo.1 h).2 rfl) (by have := HNL.out.1.1; omega) hp).2
    have HM := Lib.hid (md_again hB hA hR hd hs HNL.out.2 hp)
    have HP := Lib.hid (push_any hlo n p (in_sl HNL.out.1) hpi (by rw [hB.val (-1) (Or.inl rfl), hp]) (by rw [hB.sz]; have := HZ.out; omega) (by rw [hA.sz]; have := HZ.out; omega))
    unfold joinPost at HP
    have HN : Hid ((wo L n ++ [n]).Nodup ∧ ∀ m ∈ wo L n ++ [n], Sl m) := ⟨List.nodup_append.2 ⟨hd.sublist (wo_sub L n), by simp, fun a ha b hb e => by rw [List.mem_singleton.1 hb] at e; exact (mem_wo.1 ha).2 e⟩, fun m hm => by
      rcases List.mem_append.1 hm with h | h
      · exact hs' m h
      · rw [List.mem_singleton.1 h]; exact HNL.out.1⟩
    have HF := Lib.hid hF
    clear hlo hF hB hA hR hd hs hs' hp hpi
    go_wp2_with fail
    refine HP.out.mono ?_
    rintro e w3 ⟨rfl, hlo, ho⟩
    have HL3 := Lib.hid hlo; have HO3 := Lib.hid ho
    clear hlo ho HP
    go_wp2_with fail
    go_ret
    obtain ⟨b', a', m1, m2, m3⟩ := HM.out
    exact ⟨rfl, ⟨⟨B, A, _, _, b', a', HL3.out, HF.out, m1, m2, m3⟩, HN.out.1, HN.out.2⟩, HO2.out.trans (HO3.out.mono fun j _ hj => by
      rcases hj with hj | hj
      · rw [hj]; exact Or.inl HF.out.2.1
      · rw [hj]; exact Or.inl HF.out.2.2)⟩
  · obtain ⟨_, e2, e3⟩ := rem_cases L n hsl
    rw [e2]
    obtain ⟨x, hx⟩ : ∃ x, x = remN L n := ⟨_, rfl⟩
    rw [← hx] at HK e3 ⊢
    clear hx e2 hsl h hz
    go_enter Try.func13, Try.ntmps13
    go_wp2_with fail
    refine HK.out.mono ?_
    rintro e w1 ⟨rfl, rfl⟩
    go_wp2_with fail
    go_ret
    exact ⟨rfl, HR.out, Only.refl _ _⟩
set_option maxRecDepth 100000 in
theorem remove_str (h : Rc F w g L) (n : Int) : Calls Try.prog 14 #[.pointer (some ⟨g, 0, none⟩), .int .i64 n] w (wrS F w g (remT L n) (remN L n)) := by
  have hz := h.sizes
  have HR := Lib.hid h
  have HK := Lib.hid (need_rc h n)
  unfold wrS
  by_cases hsl : Sl n ∧ n ∈ L
  · have e3 : remN L n = 0 := by unfold remN; rw [if_neg (by simpa using hsl.1), if_pos hsl.2]
    have e4 : remT L n = wo L n := by unfold remT; rw [if_pos hsl]
    rw [e3] at HK
    rw [e3, e4]
    have HG := Lib.hid (bridge_rc h n hsl.2)
    unfold brPost at HG
    have HNL := Lib.hid hsl
    clear e3 e4 hsl hz h
    go_enter Try.func14, Try.ntmps14
    go_wp2_with fail
    refine HK.out.mono ?_
    rintro e w1 ⟨rfl, rfl⟩
    go_wp2_with fail
    refine HG.out.mono ?_
    rintro e w2 ⟨rfl, hbr, ho⟩
    have HO2 := Lib.hid ho
    clear ho HG HK
    obtain ⟨B, A, DB, DA, b, a, hlo, hF, hB, hA, hR⟩ := hbr
    have hd := HR.out.nd; have hs := HR.out.sl
    have HMB := Lib.hid (md_drop hB hd hs HNL.out.2); have HMA := Lib.hid (md_drop hA hd hs HNL.out.2)
    have HF := Lib.hid hF; have HL := Lib.hid hlo; have HRG := Lib.hid hR
    have HN : Hid ((wo L n).Nodup ∧ ∀ m ∈ wo L n, Sl m) := ⟨hd.sublist (wo_sub L n), fun m h => hs m (mem_wo.1 h).1⟩
    obtain ⟨x0, x1, _⟩ := hlo.bk.two
    clear hlo hF hB hA hR hd hs
    obtain ⟨DB', hDB⟩ : ∃ D, D = DB.del (kl n) := ⟨_, rfl⟩
    obtain ⟨DA', hDA⟩ : ∃ D, D = DA.del (kl n) := ⟨_, rfl⟩
    rw [← hDB] at HMB; rw [← hDA] at HMA
    have HDA := Lib.hid hDA; have HDB := Lib.hid hDB
    clear hDA hDB
    go_upto_region 6 with (at_delete; refine to_del _ rfl _ _ rfl B DB rfl HL.out.ob n (in_sl HNL.out.1) rfl ?_; rw [← HDB.out]; intro w3 hw3 ho3; have HO3 := Lib.hid ho3; have HW3 := Lib.hid hw3; have HK3 := Lib.hid (HL.out.bk.only ho3 HL.out.gb); have HA3 := Lib.hid (HL.out.oa.kept ho3 (fun e => HL.out.ba e.symm)); obtain ⟨y0, y1, _⟩ := HK3.out.two; clear ho3 hw3 x0 x1)
    go_wp2_with (at_delete; refine to_del _ rfl _ _ rfl A DA rfl HA3.out n (in_sl HNL.out.1) rfl ?_; rw [← HDA.out]; intro w4 hw4 ho4; have HO4 := Lib.hid ho4; have HW4 := Lib.hid hw4; clear ho4 hw4)
    go_ret
    exact ⟨rfl, ⟨⟨B, A, DB', DA', b, a, ⟨HK3.out.only HO4.out HL.out.ga, HW3.out.kept HO4.out HL.out.ba, HW4.out, HL.out.ba, HL.out.gb, HL.out.ga⟩, HF.out, HMB.out, HMA.out, HRG.out⟩, HN.out.1, HN.out.2⟩, (HO2.out.trans (HO3.out.mono fun j _ hj => Or.inl (by rw [hj]; exact HF.out.2.1))).trans (HO4.out.mono fun j _ hj => Or.inl (by rw [hj]; exact HF.out.2.2))⟩
  · obtain ⟨e2, _, e3⟩ := rem_cases L n hsl
    rw [e2]
    obtain ⟨x, hx⟩ : ∃ x, x = remN L n := ⟨_, rfl⟩
    rw [← hx] at HK e3 ⊢
    clear hx e2 hsl h hz
    go_enter Try.func14, Try.ntmps14
    go_wp2_with fail
    refine HK.out.mono ?_
    rintro e w1 ⟨rfl, rfl⟩
    go_wp2_with fail
    go_ret
    exact ⟨rfl, HR.out, Only.refl _ _⟩
theorem use_any (h : Rc F w g L) (n : Int) : Calls Try.prog 13 #[.pointer (some ⟨g, 0, none⟩), .int .i64 n] w (wrPost F w g (useT L n) (remN L n)) := wrS_any (use_str h n)
theorem remove_any (h : Rc F w g L) (n : Int) : Calls Try.prog 14 #[.pointer (some ⟨g, 0, none⟩), .int .i64 n] w (wrPost F w g (remT L n) (remN L n)) := wrS_any (remove_str h n)
theorem look_rc (h : Rc F w g L) (n : Int) : Calls Try.prog 37 #[.pointer (some ⟨g, 0, none⟩), .int .i64 n] w fun e w' => e = .returned (.tuple #[.bool (lokB L n), .int .i64 (lokN n)]) ∧ w' = w := by
  obtain ⟨⟨B, A, DB, DA, b, a, hlo, hF, hB, hA, hR⟩, hd, hs⟩ := h
  exact look_any hlo hA n
theorem usable_rc (h : Rc F w g L) : Calls Try.prog 38 #[.pointer (some ⟨g, 0, none⟩)] w fun e w' => e = .returned (.bool true) ∧ w' = w := by
  obtain ⟨⟨B, A, DB, DA, b, a, hlo, hF, hB, hA, hR⟩, hd, hs⟩ := h
  exact usable_any hlo
theorem first_rc (h : Rc F w g L) : Calls Try.prog 41 #[.pointer (some ⟨g, 0, none⟩), .int .i64 (-1), .int .i64 9] w fun e w' => e = .returned (.tuple #[.int .i64 (oldV L), .int .i64 (oldN L)]) ∧ w' = w := by
  obtain ⟨⟨B, A, DB, DA, b, a, hlo, hF, hB, hA, hR⟩, hd, hs⟩ := h
  refine follow_any hlo (-1) 9 (a (-1)) _ _ in_m1 (hA.val _ (Or.inl rfl)) ?_ ?_
  · rw [hR.first]
    cases L with
    | nil => rfl
    | cons x r =>
      have hx : x ≠ -1 := by have := (hs x (by simp)).1; omega
      show (if x = -1 then 0 else x) = x
      rw [if_neg hx]
  · rw [hR.first]
    cases L with
    | nil => rfl
    | cons x r =>
      have hx : x ≠ -1 := by have := (hs x (by simp)).1; omega
      show (if x = -1 then (9 : Int) else 0) = oldN (x :: r)
      rw [if_neg hx]; unfold oldN; simp
theorem next_rc (h : Rc F w g L) (n : Int) (hn : n ∈ L) : Calls Try.prog 41 #[.pointer (some ⟨g, 0, none⟩), .int .i64 n, .int .i64 16] w fun e w' => e = .returned (.tuple #[.int .i64 (nextV L n), .int .i64 (nextN L n)]) ∧ w' = w := by
  obtain ⟨⟨B, A, DB, DA, b, a, hlo, hF, hB, hA, hR⟩, hd, hs⟩ := h
  obtain ⟨k, hk, rfl⟩ := List.getElem_of_mem hn
  have hr := hR.next hk
  have e : (if a L[k] = -1 then 0 else a L[k]) = nextV L L[k] ∧ (if a L[k] = -1 then 16 else 0) = nextN L L[k] := by
    by_cases h1 : k + 1 < L.length
    · obtain ⟨e1, e2⟩ := next_mid hd hs h1
      rw [e1, e2, hr, dif_pos h1]
      have hx : L[k + 1] ≠ -1 := by have := (hs _ (List.getElem_mem h1)).1; omega
      rw [if_neg hx, if_neg hx]; exact ⟨rfl, rfl⟩
    · obtain ⟨e1, e2⟩ := next_end hd hs (show k + 1 = L.length by omega)
      rw [e1, e2, hr, dif_neg h1]
      exact ⟨rfl, rfl⟩
  exact follow_any hlo L[k] 16 (a L[k]) _ _ (in_sl (hs _ hn)) (hA.val _ (Or.inr hn)) e.1 e.2
set_option maxRecDepth 100000 in
theorem oldest_same (h : Rc F w g L) : Calls Try.prog 23 #[.pointer (some ⟨g, 0, none⟩)] w fun e w' => e = .returned (.tuple #[.int .i64 (oldV L), .int .i64 (oldN L)]) ∧ w' = w := by
  have HU := Lib.hid (usable_rc h)
  have HF := Lib.hid (first_rc h)
  obtain ⟨x, hx⟩ : ∃ x, x = oldV L := ⟨_, rfl⟩
  obtain ⟨y, hy⟩ : ∃ y, y = oldN L := ⟨_, rfl⟩
  rw [← hx, ← hy] at HF ⊢
  clear hx hy h
  go_enter Try.func23, Try.ntmps23
  go_wp2_with fail
  refine HU.out.mono ?_
  rintro e w1 ⟨rfl, rfl⟩
  go_wp2_with fail
  refine HF.out.mono ?_
  rintro e w1 ⟨rfl, rfl⟩
  go_wp2_with fail
  go_ret2
  exact ⟨rfl, rfl⟩
set_option maxRecDepth 100000 in
theorem next_same (h : Rc F w g L) (n : Int) : Calls Try.prog 24 #[.pointer (some ⟨g, 0, none⟩), .int .i64 n] w fun e w' => e = .returned (.tuple #[.int .i64 (nextV L n), .int .i64 (nextN L n)]) ∧ w' = w := by
  have HK := Lib.hid (need_rc h n)
  by_cases hsl : Sl n ∧ n ∈ L
  · have e3 : remN L n = 0 := by unfold remN; rw [if_neg (by simpa using hsl.1), if_pos hsl.2]
    rw [e3] at HK
    have HF := Lib.hid (next_rc h n hsl.2)
    obtain ⟨x, hx⟩ : ∃ x, x = nextV L n := ⟨_, rfl⟩
    obtain ⟨y, hy⟩ : ∃ y, y = nextN L n := ⟨_, rfl⟩
    rw [← hx, ← hy] at HF ⊢
    clear hx hy h e3 hsl
    go_enter Try.func24, Try.ntmps24
    go_wp2_with fail
    refine HK.out.mono ?_
    rintro e w1 ⟨rfl, rfl⟩
    go_wp2_with fail
    refine HF.out.mono ?_
    rintro e w1 ⟨rfl, rfl⟩
    go_wp2_with fail
    go_ret2
    exact ⟨rfl, rfl⟩
  · obtain ⟨_, _, e3⟩ := rem_cases L n hsl
    have e4 : nextN L n = remN L n := by
      unfold nextN remN
      by_cases h1 : Sl n
      · have h2 : n ∉ L := fun h2 => hsl ⟨h1, h2⟩
        rw [if_neg (show ¬ ¬ Sl n from fun h => h h1), if_pos h2, if_neg (show ¬ ¬ Sl n from fun h => h h1), if_neg h2]
      · rw [if_pos h1, if_pos h1]
    have e5 : nextV L n = 0 := by unfold nextV; rw [e4, if_neg (by simpa using e3)]
    rw [e4, e5]
    obtain ⟨x, hx⟩ : ∃ x, x = remN L n := ⟨_, rfl⟩
    rw [← hx] at HK e3 ⊢
    clear hx e4 e5 hsl h
    go_enter Try.func24, Try.ntmps24
    go_wp2_with fail
    refine HK.out.mono ?_
    rintro e w1 ⟨rfl, rfl⟩
    go_wp2_with fail
    go_ret2
    exact ⟨rfl, rfl⟩
theorem oldest_any (h : Rc F w g L) : Calls Try.prog 23 #[.pointer (some ⟨g, 0, none⟩)] w (lkPost w (.tuple #[.int .i64 (oldV L), .int .i64 (oldN L)])) := lk_same (oldest_same h)
theorem next_any (h : Rc F w g L) (n : Int) : Calls Try.prog 24 #[.pointer (some ⟨g, 0, none⟩), .int .i64 n] w (lkPost w (.tuple #[.int .i64 (nextV L n), .int .i64 (nextN L n)])) := lk_same (next_same h n)
theorem has_any (h : Rc F w g L) (n : Int) : Calls Try.prog 18 #[.pointer (some ⟨g, 0, none⟩), .int .i64 n] w (lkPost w (.bool (decide (n ∈ L)))) := by
  refine lk_same ?_
  have HK := Lib.hid (need_rc h n)
  have e : (remN L n == 0) = decide (n ∈ L) := by
    unfold remN
    by_cases h1 : n ∈ L
    · rw [if_neg (by simpa using h.sl n h1), if_pos h1]; simp [h1]
    · by_cases h2 : Sl n
      · rw [if_neg (by simpa using h2), if_neg h1]; simp [h1]
      · rw [if_pos h2]; simp [h1]
  obtain ⟨y, hy⟩ : ∃ y, y = decide (n ∈ L) := ⟨_, rfl⟩
  obtain ⟨x, hx⟩ : ∃ x, x = remN L n := ⟨_, rfl⟩
  rw [← hy, ← hx] at e
  rw [← hx] at HK
  rw [← hy]
  clear hx hy h
  go_enter Try.func18, Try.ntmps18
  go_wp2_with fail
  refine HK.out.mono ?_
  rintro e w1 ⟨rfl, rfl⟩
  go_wp2_with fail
  go_ret
  exact ⟨rfl, rfl⟩
theorem len_same (h : Rc F w g L) : Calls Try.prog 19 #[.pointer (some ⟨g, 0, none⟩)] w fun e w' => e = .returned (.int .i64 (L.length : Int)) ∧ w' = w := by
  have HU := Lib.hid (usable_rc h)
  have hz := h.sizes
  obtain ⟨⟨B, A, DB, DA, b, a, hlo, hF, hB, hA, hR⟩, hd, hs⟩ := h
  have hml : (Builtin.len_ #[43] 3 #[.map (some A)]).run Try.prog w = .ok (.int .i64 ((L.length + 1 : Nat) : Int)) w := by
    have := World.ownsMap.len hlo.oa Try.underlying43 3
    rw [hA.sz] at this; exact this
  obtain ⟨x0, x1, _⟩ := hlo.bk.two
  have hzi : (L.length : Int) ≤ 1048576 := by omega
  clear hlo hF hB hA hR hd hs hz
  go_enter Try.func19, Try.ntmps19
  go_wp2_with fail
  refine HU.out.mono ?_
  rintro e w1 ⟨rfl, rfl⟩
  go_wp2_with fail
  go_ret
  exact ⟨retI (by first | (simp; done) | omega | (simp; omega)), rfl⟩
theorem len_any (h : Rc F w g L) : Calls Try.prog 19 #[.pointer (some ⟨g, 0, none⟩)] w (lkPost w (.int .i64 (L.length : Int))) := lk_same (len_same h)
end
def ev (L : List Int) (j : Nat) : Int := if j < L.length then 0 else if L.length = 0 then 9 else 16
theorem ev_old (L : List Int) : oldV L = L.getD 0 0 ∧ oldN L = ev L 0 := by
  cases L with
  | nil => exact ⟨rfl, rfl⟩
  | cons x r => exact ⟨rfl, by unfold oldN ev; simp⟩
theorem ev_next {L : List Int} (hd : L.Nodup) (hs : ∀ n ∈ L, Sl n) {j : Nat} (hj : j < L.length) : nextV L (L.getD j 0) = L.getD (j + 1) 0 ∧ nextN L (L.getD j 0) = ev L (j + 1) := by
  have e : L.getD j 0 = L[j] := by rw [List.getD_eq_getElem?_getD, List.getElem?_eq_getElem hj]; rfl
  rw [e]
  by_cases h : j + 1 < L.length
  · obtain ⟨h1, h2⟩ := next_mid hd hs h
    rw [h1, h2]
    exact ⟨by rw [List.getD_eq_getElem?_getD, List.getElem?_eq_getElem h]; rfl, by unfold ev; rw [if_pos h]⟩
  · have h' : j + 1 = L.length := by omega
    obtain ⟨h1, h2⟩ := next_end hd hs h'
    rw [h1, h2]
    exact ⟨by rw [List.getD_eq_getElem?_getD, List.getElem?_eq_none (by omega)]; rfl, by unfold ev; rw [if_neg h, if_neg (by omega)]⟩
theorem make_list (n : Nat) (w : World) (h : n ≤ 1048576) : ∃ w1, (Instr.makeSlice 26 (.int .i64 0) (.int .i64 (n : Int))).run Try.prog w = .ok (.slice (some ⟨w.heap.size, 0, none⟩) 0 n) w1 ∧ Mine w.heap.size 1 w1 (some ⟨w.heap.size, 0, none⟩) 0 n [] ∧ w.grownBy w1 none := by
  obtain ⟨i, hi1, hz0, hz1, hz2⟩ := info_parts info_int
  obtain ⟨w1, h1, h2, h3⟩ := run_make_own (P := Try.prog) w w.heap.size 26 3 i (.int .i64 0) 1 Try.underlying26 hi1 hz0 hz1 .i64 .i64 n (by rw [hz2]; omega) (by unfold maxLen; omega) (Nat.le_refl _)
  obtain ⟨A', c', e, hm, _⟩ := Mine.of_own h2
  injection e with e1 e2 e3
  subst e1; subst e3
  exact ⟨w1, h1, hm, h3⟩
/-- What the method list leaves. -/
def listPost (w : World) (L : List Int) : Ending → World → Prop := fun e w' => ∃ A c, e = .returned (.slice A L.length c) ∧ Mine w.heap.size 1 w' A L.length c (iv L) ∧ Below w.heap.size w w'
section
variable {F : Nat → Prop} {w : World} {g : Nat} {L : List Int}
set_option maxRecDepth 100000 in
set_option maxHeartbeats 1000000 in
theorem list_any (h : Rc F w g L) : Calls Try.prog 33 #[.pointer (some ⟨g, 0, none⟩)] w (listPost w L) := by
  have HLN := Lib.hid (len_same h)
  have HRC := Lib.hid h
  have hz := h.sizes
  have hzi : (L.length : Int) ≤ 1048576 := by omega
  obtain ⟨w1, hmk, hm, hg⟩ := make_list L.length w hz
  have B1 : Hid (Below w.heap.size w w1) := (Below.refl _ w).grown hg (Nat.le_refl _) (fun j e => by cases e)
  have M1 := Lib.hid hm
  have H1 := Lib.hid (h.below B1.out (Nat.le_refl _))
  have hz1 := B1.out.size
  have OL := Lib.hid (oldest_same H1.out)
  rw [(ev_old L).1, (ev_old L).2] at OL
  unfold listPost
  clear h hm hg
  go_enter Try.func33, Try.ntmps33
  go_wp2_with fail
  refine HLN.out.mono ?_
  rintro e w0 ⟨rfl, rfl⟩
  go_wp2_with fail
  refine OL.out.mono ?_
  rintro e w2 ⟨rfl, rfl⟩
  clear hmk HLN OL
  go_wp2_with fail
  go_loopw [3, 4, 5] (fun v x e wr => ∃ (j : Nat) (X : Option Addr) (d : Nat), j ≤ L.length ∧ v = .slice X j d ∧ x = .int .i64 (L.getD j 0) ∧ e = .int .i64 (ev L j) ∧ Mine w0.heap.size 1 wr X j d (iv (L.take j)) ∧ Below w0.heap.size w0 wr) (fun v _ _ _ => match v with | .slice _ j _ => L.length - j | _ => 0)
  case atStart => exact ⟨0, _, _, Nat.zero_le _, rfl, rfl, rfl, M1.out, B1.out⟩
  case round =>
    obtain ⟨j, X, d, hj, rfl, rfl, rfl, hm, hb⟩ := hrel
    have MM := Lib.hid hm; have BB := Lib.hid hb
    have HHr := Lib.hid (HRC.out.below hb (Nat.le_refl _))
    have hzr := hb.size
    clear hm hb
    by_cases hlt : j < L.length
    · have ee : ev L j = 0 := if_pos hlt
      obtain ⟨x, hx⟩ : ∃ x, x = L.getD j 0 := ⟨_, rfl⟩
      have EN := Lib.hid (ev_next HHr.out.nd HHr.out.sl hlt)
      have TK : Hid (L.take (j + 1) = L.take j ++ [x]) := by show _ = _; rw [List.take_succ_eq_append_getElem hlt, hx, List.getD_eq_getElem?_getD, List.getElem?_eq_getElem hlt]; rfl
      rw [ee, ← hx]
      rw [← hx] at EN
      clear ee hx
      go_wp2_with (at_builtin; (refine wpList_mine rfl _ _ elI _ rfl rfl (MM.out.below (bnew wr (.cells #[.int .i64 x] 3)) (Nat.le_refl _)) _ rfl 1 _ (src_lit Try.underlying26 #[.int .i64 x] 1 1 rfl (by simp [Value.oneCell'])) (by omega) (by omega) (by simp; omega) ?_))
      intro A5 c5 w5 m5 g5 _
      have M5 : Hid (Mine w0.heap.size 1 w5 A5 (j + 1) c5 (iv (L.take (j + 1)))) := by
        show Mine _ _ _ _ _ _ _
        rw [TK.out, iv_snoc]; exact m5
      have BB5 : Hid (Below w0.heap.size w0 w5) := (BB.out.trans ((bnew wr (.cells #[.int .i64 x] 3)).mono (by omega))).trans ((only_row (F := fun j => w0.heap.size ≤ j) g5 (fun a ha => (MM.out.base ha).1)).below (fun _ h => h) (by simp; omega))
      have HH5 := Lib.hid (HRC.out.below BB5.out (Nat.le_refl _))
      have NX := Lib.hid (next_same HH5.out x)
      rw [EN.out.1, EN.out.2] at NX
      clear m5 g5
      go_wp2_with fail
      refine NX.out.mono ?_
      rintro r w6 ⟨rfl, rfl⟩
      clear NX
      go_wp2_with fail
      go_roundw
      case rel => exact ⟨j + 1, A5, c5, by omega, by first | rfl | go_num, rfl, rfl, M5.out, BB5.out⟩
      case measure => simp; omega
    · obtain rfl : j = L.length := by omega
      have ee : (ev L L.length == 0) = false := by unfold ev; rw [if_neg (by omega)]; split <;> rfl
      have MM2 : Hid (Mine w0.heap.size 1 wr X L.length d (iv L)) := by show Mine _ _ _ _ _ _ _; have := MM.out; rw [List.take_of_length_le (Nat.le_refl _)] at this; exact this
      obtain ⟨e0, he0⟩ : ∃ e0, e0 = ev L L.length := ⟨_, rfl⟩
      obtain ⟨x0, hx0⟩ : ∃ x0, x0 = L.getD L.length 0 := ⟨_, rfl⟩
      rw [← he0] at ee ⊢
      rw [← hx0]
      clear he0 hx0 MM hlt hj
      go_wp2_with fail
      go_ret
      exact ⟨X, d, rfl, MM2.out, BB.out⟩
theorem values_any {w : World} {n0 : Nat} {A : Option Addr} {c : Nat} {L : List Int} (hL : L.length ≤ 2000000) (hn : n0 ≤ w.heap.size) (h : Mine n0 1 w A L.length c (iv L)) :
    Calls Try.prog 32 #[.slice A L.length c] w fun e w' => (∃ v, e = .returned v ∧ IsSeq n0 w'.heap.size w' v L) ∧ Below w.heap.size w w' := by
  have HB := Lib.hid (bnew w (.cells #[.slice A L.length c] 26))
  have HI : Hid (IsSeq n0 (w.alloc (.cells #[.slice A L.length c] 26)).heap.size (w.alloc (.cells #[.slice A L.length c] 26)) (.func (.func 43) #[] #[.pointer (some ⟨w.heap.size, 0, none⟩)]) L) := by
    have e1 : (w.alloc (.cells #[.slice A L.length c] 26)).heap.size = w.heap.size + 1 := by simp
    refine Ud.vals_seq (A := A) (c := c) (by omega) (Nat.le_refl _) ⟨hn, by omega⟩ hL ((Blk.new w _ _).cell 0) ⟨(Li.mine h).below HB.out (Nat.le_refl _), fun a ha => ⟨(h.base ha).1, by have := (h.base ha).2.1; omega⟩⟩
  clear h hn hL
  go_enter Try.func32, Try.ntmps32
  go_wp2_with fail
  go_ret
  exact ⟨⟨_, rfl, HI.out⟩, HB.out⟩
set_option maxRecDepth 100000 in
theorem all_any (h : Rc F w g L) : Calls Try.prog 12 #[.pointer (some ⟨g, 0, none⟩)] w (seqPost w L) := by
  have HL := Lib.hid (list_any h)
  have HZ := Lib.hid h.sizes
  unfold listPost at HL
  unfold seqPost
  clear h
  go_enter Try.func12, Try.ntmps12
  go_wp2_with fail
  refine HL.out.mono ?_
  rintro e w1 ⟨A, c, rfl, hm, hb⟩
  have HV := Lib.hid (values_any (by have := HZ.out; omega) hb.size hm)
  have HB := Lib.hid hb
  clear hm hb HL
  go_wp2_with fail
  refine HV.out.mono ?_
  rintro e w2 ⟨⟨v, rfl, hs⟩, hb⟩
  have HS := Lib.hid hs; have HB2 := Lib.hid (bstep HB.out hb)
  clear hs hb HV
  go_wp2_with fail
  go_ret
  exact ⟨_, rfl, HS.out, HB2.out⟩
theorem copy_any (h : Rc F w g L) : Calls Try.prog 22 #[.pointer (some ⟨g, 0, none⟩)] w (mkPost w L) := by
  obtain ⟨⟨B, A, DB, DA, b, a, hlo, hF, hB, hA, hR⟩, hd, hs⟩ := h
  refine (Wd.copy_raw hlo).mono ?_
  rintro e w' ⟨g', B', A', rfl, hlo', h1, h2, h3, hb⟩
  exact ⟨g', rfl, ⟨⟨B', A', DB, DA, b, a, hlo', ⟨h1, h2, h3⟩, hB, hA, hR⟩, hd, hs⟩, hb⟩
end
/-- The cells of a zero order. -/
def zeroC : Array Value := #[.map none, .map none]
/-- A nil or zero order. -/
def Idle (w : World) (p : Option Addr) : Prop := p = none ∨ ∃ g, p = some ⟨g, 0, none⟩ ∧ Blk w g zeroC 45
theorem Idle.below {w w' : World} {p : Option Addr} (h : Idle w p) (hb : Below w.heap.size w w') : Idle w' p := by
  rcases h with h | ⟨g, h, h1⟩
  · exact Or.inl h
  · exact Or.inr ⟨g, h, h1.below hb h1.lt⟩
section
variable {w : World} {p : Option Addr}
theorem usable_idle (h : Idle w p) : Calls Try.prog 38 #[.pointer p] w fun e w' => e = .returned (.bool false) ∧ w' = w := by
  rcases h with rfl | ⟨g, rfl, hb⟩
  · go_enter Try.func38, Try.ntmps38
    go_wp2_with fail
    go_ret
    exact ⟨rfl, rfl⟩
  · obtain ⟨x0, x1, _⟩ := Blk.two hb
    have hnq := neq_map
    clear hb
    go_enter Try.func38, Try.ntmps38
    go_wp2_with fail
    go_ret
    exact ⟨rfl, rfl⟩
theorem look_idle (h : Idle w p) (n : Int) : Calls Try.prog 37 #[.pointer p, .int .i64 n] w fun e w' => e = .returned (.tuple #[.bool false, .int .i64 1]) ∧ w' = w := by
  have HK := Lib.hid (usable_idle h)
  clear h
  go_enter Try.func37, Try.ntmps37
  go_wp2_with fail
  refine HK.out.mono ?_
  rintro e w1 ⟨rfl, rfl⟩
  go_wp2_with fail
  go_ret2
  exact ⟨rfl, rfl⟩
theorem need_idle (h : Idle w p) (n : Int) : Calls Try.prog 34 #[.pointer p, .int .i64 n] w fun e w' => e = .returned (.int .i64 1) ∧ w' = w := by
  have HK := Lib.hid (look_idle h n)
  clear h
  go_enter Try.func34, Try.ntmps34
  go_wp2_with fail
  refine HK.out.mono ?_
  rintro e w1 ⟨rfl, rfl⟩
  go_wp2_with fail
  go_ret
  exact ⟨rfl, rfl⟩
theorem add_idle' (h : Idle w p) (n : Int) : Calls Try.prog 16 #[.pointer p, .int .i64 n] w fun e w' => e = .returned (.int .i64 1) ∧ w' = w := by
  have HK := Lib.hid (look_idle h n)
  clear h
  go_enter Try.func16, Try.ntmps16
  go_wp2_with fail
  refine HK.out.mono ?_
  rintro e w1 ⟨rfl, rfl⟩
  go_wp2_with fail
  go_ret
  exact ⟨rfl, rfl⟩
theorem use_idle' (h : Idle w p) (n : Int) : Calls Try.prog 13 #[.pointer p, .int .i64 n] w fun e w' => e = .returned (.int .i64 1) ∧ w' = w := by
  have HK := Lib.hid (need_idle h n)
  clear h
  go_enter Try.func13, Try.ntmps13
  go_wp2_with fail
  refine HK.out.mono ?_
  rintro e w1 ⟨rfl, rfl⟩
  go_wp2_with fail
  go_ret
  exact ⟨rfl, rfl⟩
theorem remove_idle' (h : Idle w p) (n : Int) : Calls Try.prog 14 #[.pointer p, .int .i64 n] w fun e w' => e = .returned (.int .i64 1) ∧ w' = w := by
  have HK := Lib.hid (need_idle h n)
  clear h
  go_enter Try.func14, Try.ntmps14
  go_wp2_with fail
  refine HK.out.mono ?_
  rintro e w1 ⟨rfl, rfl⟩
  go_wp2_with fail
  go_ret
  exact ⟨rfl, rfl⟩
theorem oldest_idle' (h : Idle w p) : Calls Try.prog 23 #[.pointer p] w fun e w' => e = .returned (.tuple #[.int .i64 0, .int .i64 1]) ∧ w' = w := by
  have HK := Lib.hid (usable_idle h)
  clear h
  go_enter Try.func23, Try.ntmps23
  go_wp2_with fail
  refine HK.out.mono ?_
  rintro e w1 ⟨rfl, rfl⟩
  go_wp2_with fail
  go_ret2
  exact ⟨rfl, rfl⟩
theorem next_idle' (h : Idle w p) (n : Int) : Calls Try.prog 24 #[.pointer p, .int .i64 n] w fun e w' => e = .returned (.tuple #[.int .i64 0, .int .i64 1]) ∧ w' = w := by
  have HK := Lib.hid (need_idle h n)
  clear h
  go_enter Try.func24, Try.ntmps24
  go_wp2_with fail
  refine HK.out.mono ?_
  rintro e w1 ⟨rfl, rfl⟩
  go_wp2_with fail
  go_ret2
  exact ⟨rfl, rfl⟩
theorem has_idle' (h : Idle w p) (n : Int) : Calls Try.prog 18 #[.pointer p, .int .i64 n] w fun e w' => e = .returned (.bool false) ∧ w' = w := by
  have HK := Lib.hid (need_idle h n)
  clear h
  go_enter Try.func18, Try.ntmps18
  go_wp2_with fail
  refine HK.out.mono ?_
  rintro e w1 ⟨rfl, rfl⟩
  go_wp2_with fail
  go_ret
  exact ⟨rfl, rfl⟩
theorem len_idle' (h : Idle w p) : Calls Try.prog 19 #[.pointer p] w fun e w' => e = .returned (.int .i64 0) ∧ w' = w := by
  have HK := Lib.hid (usable_idle h)
  clear h
  go_enter Try.func19, Try.ntmps19
  go_wp2_with fail
  refine HK.out.mono ?_
  rintro e w1 ⟨rfl, rfl⟩
  go_wp2_with fail
  go_ret
  exact ⟨rfl, rfl⟩
theorem copy_idle' (h : Idle w p) : Calls Try.prog 22 #[.pointer p] w fun e w' => e = .returned (.pointer none) ∧ w' = w := by
  have HK := Lib.hid (usable_idle h)
  clear h
  go_enter Try.func22, Try.ntmps22
  go_wp2_with fail
  refine HK.out.mono ?_
  rintro e w1 ⟨rfl, rfl⟩
  go_wp2_with fail
  go_ret
  exact ⟨rfl, rfl⟩
theorem add_idle (h : Idle w p) (n : Int) : Calls Try.prog 16 #[.pointer p, .int .i64 n] w (lkPost w (.int .i64 1)) := lk_same (add_idle' h n)
theorem use_idle (h : Idle w p) (n : Int) : Calls Try.prog 13 #[.pointer p, .int .i64 n] w (lkPost w (.int .i64 1)) := lk_same (use_idle' h n)
theorem remove_idle (h : Idle w p) (n : Int) : Calls Try.prog 14 #[.pointer p, .int .i64 n] w (lkPost w (.int .i64 1)) := lk_same (remove_idle' h n)
theorem oldest_idle (h : Idle w p) : Calls Try.prog 23 #[.pointer p] w (lkPost w (.tuple #[.int .i64 0, .int .i64 1])) := lk_same (oldest_idle' h)
theorem next_idle (h : Idle w p) (n : Int) : Calls Try.prog 24 #[.pointer p, .int .i64 n] w (lkPost w (.tuple #[.int .i64 0, .int .i64 1])) := lk_same (next_idle' h n)
theorem has_idle (h : Idle w p) (n : Int) : Calls Try.prog 18 #[.pointer p, .int .i64 n] w (lkPost w (.bool false)) := lk_same (has_idle' h n)
theorem len_idle (h : Idle w p) : Calls Try.prog 19 #[.pointer p] w (lkPost w (.int .i64 0)) := lk_same (len_idle' h)
theorem copy_idle (h : Idle w p) : Calls Try.prog 22 #[.pointer p] w (lkPost w (.pointer none)) := lk_same (copy_idle' h)
set_option maxRecDepth 100000 in
theorem list_idle (h : Idle w p) : Calls Try.prog 33 #[.pointer p] w (listPost w []) := by
  have HLN := Lib.hid (len_idle' h)
  obtain ⟨w1, hmk, hm, hg⟩ := make_list 0 w (by omega)
  rw [show ((0 : Nat) : Int) = 0 from rfl] at hmk
  have B1 : Hid (Below w.heap.size w w1) := (Below.refl _ w).grown hg (Nat.le_refl _) (fun j e => by cases e)
  have M1 := Lib.hid hm
  have HO := Lib.hid (oldest_idle' (h.below B1.out))
  unfold listPost
  clear h hm hg
  go_enter Try.func33, Try.ntmps33
  go_wp2_with fail
  refine HLN.out.mono ?_
  rintro e w0 ⟨rfl, rfl⟩
  go_wp2_with fail
  refine HO.out.mono ?_
  rintro e w2 ⟨rfl, rfl⟩
  clear hmk HLN HO
  go_wp2_with fail
  go_loopw [3, 4, 5] (fun v _ e wr => v = .slice (some ⟨w0.heap.size, 0, none⟩) 0 0 ∧ e = .int .i64 1 ∧ wr = w2) (fun _ _ _ _ => 0)
  case atStart => exact ⟨rfl, rfl, rfl⟩
  case round =>
    obtain ⟨rfl, rfl, rfl⟩ := hrel
    go_wp2_with fail
    go_ret
    exact ⟨_, _, rfl, M1.out, B1.out⟩
theorem all_idle (h : Idle w p) : Calls Try.prog 12 #[.pointer p] w (seqPost w []) := by
  have HL := Lib.hid (list_idle h)
  unfold listPost at HL
  unfold seqPost
  clear h
  go_enter Try.func12, Try.ntmps12
  go_wp2_with fail
  refine HL.out.mono ?_
  rintro e w1 ⟨A, c, rfl, hm, hb⟩
  have HV := Lib.hid (values_any (by show 0 ≤ 2000000; omega) hb.size hm)
  have HB := Lib.hid hb
  clear hm hb HL
  go_wp2_with fail
  refine HV.out.mono ?_
  rintro e w2 ⟨⟨v, rfl, hs⟩, hb⟩
  have HS := Lib.hid hs; have HB2 := Lib.hid (bstep HB.out hb)
  clear hs hb HV
  go_wp2_with fail
  go_ret
  exact ⟨_, rfl, HS.out, HB2.out⟩
end
end Go.Proofs.Ytfoalfemkpiniaa.Ue
