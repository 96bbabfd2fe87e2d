/- Proves what New and the methods check, Feed, Held, Closed and Copy of a decoder return, and what they leave in memory. Conditions: few bytes. -/
import Derived.Test.YtmphielkohnpgaaDm
import Derived.Test.YtmphielkohnpgaaFr
import Derived.Test.YtmphielkohnpgaaVc
namespace Go.Proofs.Ytmphielkohnpgaa.Dd
open Go.RowKit Vm Ap Vw Va Vc Gc Fm Fw Mi Mb Fr Dm

/-- The decoder in block g: its maximum, what it holds, whether it is closed. It and what it holds lie in F. -/
structure Dec (F : Nat → Prop) (w : World) (g : Nat) (m : Int) (s : St) : Prop where
  has : ∃ A c, w.heap[g]? = some (.cells #[.int .i64 m, .slice A s.held.length c, .bool true, .bool s.shut] 59 (0, 0)) ∧ F g ∧ MineB 0 w A s.held c ∧ ∀ a, A = some a → F a.block ∧ a.block ≠ g
theorem Dec.lt {F : Nat → Prop} {w : World} {g : Nat} {m : Int} {s : St} (h : Dec F w g m s) : g < w.heap.size := by
  obtain ⟨A, c, h1, _⟩ := h.has
  exact (Array.getElem?_eq_some_iff.1 h1).1
theorem Dec.inF {F : Nat → Prop} {w : World} {g : Nat} {m : Int} {s : St} (h : Dec F w g m s) : F g := by
  obtain ⟨A, c, _, h1, _⟩ := h.has
  exact h1
theorem Dec.mono {F G : Nat → Prop} {w : World} {g : Nat} {m : Int} {s : St} (h : Dec F w g m s) (hFG : ∀ j, j < w.heap.size → F j → G j) : Dec G w g m s := by
  have hl := h.lt
  obtain ⟨A, c, h1, h2, h3, h4⟩ := h.has
  exact ⟨A, c, h1, hFG _ hl h2, h3, fun a ha => ⟨hFG _ (h3.base ha).2.1 (h4 a ha).1, (h4 a ha).2⟩⟩
/-- Only what is there counts. -/
theorem Dec.tight {F : Nat → Prop} {w : World} {g : Nat} {m : Int} {s : St} (h : Dec F w g m s) : Dec (fun j => F j ∧ j < w.heap.size) w g m s := h.mono fun _ hj hf => ⟨hf, hj⟩
theorem Dec.only {F G : Nat → Prop} {w w' : World} {g : Nat} {m : Int} {s : St} (h : Dec F w g m s) (ho : Only G w w') (hn : ∀ j, F j → ¬ G j) : Dec F w' g m s := by
  have hl := h.lt
  obtain ⟨A, c, h1, h2, h3, h4⟩ := h.has
  exact ⟨A, c, by rw [ho.block g hl (hn g h2)]; exact h1, h2, h3.only ho (fun a ha => hn _ (h4 a ha).1), h4⟩
theorem Dec.below {F : Nat → Prop} {w w' : World} {B g : Nat} {m : Int} {s : St} (h : Dec F w g m s) (hb : Below B w w') (hB : w.heap.size ≤ B) : Dec F w' g m s :=
  h.only (Only.of_below hb hB (fun _ => False)) (fun _ _ hf => hf)
theorem Dec.drewN {F : Nat → Prop} {w : World} {g : Nat} {m : Int} {s : St} (h : Dec F w g m s) (n : Nat) : Dec F (w.drewN n) g m s := h.only ((Only.refl (fun _ => False) w).drewN n) (fun _ _ hf => hf)
/-- The fields, as the walks read them. -/
structure Cells (w : World) (g : Nat) (m : Int) (A : Option Addr) (n c : Nat) (b : Bool) : Prop where
  c0 : w.cell? ⟨g, 0, none⟩ = some (.int .i64 m)
  c1 : w.cell? ⟨g, 1, none⟩ = some (.slice A n c)
  c2 : w.cell? ⟨g, 2, none⟩ = some (.bool true)
  c3 : w.cell? ⟨g, 3, none⟩ = some (.bool b)
  f1 : w.frozen? ⟨g, 1, none⟩ = false
  f3 : w.frozen? ⟨g, 3, none⟩ = false
theorem cells_of {w : World} {g : Nat} {m : Int} {A : Option Addr} {n c : Nat} {b : Bool} (h : w.heap[g]? = some (.cells #[.int .i64 m, .slice A n c, .bool true, .bool b] 59 (0, 0))) : Cells w g m A n c b :=
  ⟨by rw [cell_of_row w g 0 _ _ _ h]; rfl, by rw [cell_of_row w g 1 _ _ _ h]; rfl, by rw [cell_of_row w g 2 _ _ _ h]; rfl, by rw [cell_of_row w g 3 _ _ _ h]; rfl, frozen_of_row w g 1 _ _ h, frozen_of_row w g 3 _ _ h⟩
/-- What is stored into the field of the bytes that are held. -/
theorem dec_held {w : World} {g : Nat} {m : Int} {A A' : Option Addr} {n n' c c' : Nat} {b : Bool} (h : w.heap[g]? = some (.cells #[.int .i64 m, .slice A n c, .bool true, .bool b] 59 (0, 0))) :
    (w.setCell ⟨g, 1, none⟩ (.slice A' n' c')).heap[g]? = some (.cells #[.int .i64 m, .slice A' n' c', .bool true, .bool b] 59 (0, 0)) := heap_setCell_same w g 1 _ _ _ h
theorem dec_shut {w : World} {g : Nat} {m : Int} {A : Option Addr} {n c : Nat} {b b' : Bool} (h : w.heap[g]? = some (.cells #[.int .i64 m, .slice A n c, .bool true, .bool b] 59 (0, 0))) :
    (w.setCell ⟨g, 3, none⟩ (.bool b')).heap[g]? = some (.cells #[.int .i64 m, .slice A n c, .bool true, .bool b'] 59 (0, 0)) := heap_setCell_same w g 3 _ _ _ h
/-- A row of bytes in a block other than g stands when a cell of block g is written. -/
theorem mine_other {w : World} {A : Option Addr} {l : Bs} {c g i : Nat} (h : MineB 0 w A l c) (hn : ∀ a, A = some a → a.block ≠ g) (u : Value) : MineB 0 (w.setCell ⟨g, i, none⟩ u) A l c :=
  h.only (F := fun j => j = g) ((Only.refl (fun j => j = g) w).setCell (ad := ⟨g, i, none⟩) (Or.inl rfl) u) (fun a ha hf => hn a ha hf)

def newPost (w : World) (m : Int) : Ending → World → Prop := fun e w' =>
  (okM m ∧ ∃ g, e = .returned (.tuple #[.pointer (some ⟨g, 0, none⟩), .int .i64 0]) ∧ Dec (fun j => w.heap.size ≤ j) w' g m ⟨[], false⟩ ∧ Below w.heap.size w w') ∨
  (¬ okM m ∧ e = .returned (.tuple #[.pointer none, .int .i64 2]) ∧ w = w')
set_option maxRecDepth 100000 in
set_option maxHeartbeats 400000 in
theorem new_any (m : Int) (w : World) : Calls Try.prog 10 #[.int .i64 m] w (newPost w m) := by
  by_cases h0 : m < 0
  · have HN : Hid (¬ okM m) := fun h => h (Or.inl h0)
    go_enter Try.func10, Try.ntmps10
    go_wp2_with fail
    go_ret2
    exact Or.inr ⟨HN.out, rfl, rfl⟩
  · by_cases h1 : 2097152 < m
    · have HN : Hid (¬ okM m) := fun h => h (Or.inr h1)
      have h0' : 0 ≤ m := by omega
      clear h0
      go_enter Try.func10, Try.ntmps10
      go_wp2_with fail
      go_ret2
      exact Or.inr ⟨HN.out, rfl, rfl⟩
    · have HN : Hid (okM m) := fun h => by rcases h with h | h <;> omega
      have h0' : 0 ≤ m := by omega
      have h1' : m ≤ 2097152 := by omega
      clear h0 h1
      go_enter Try.func10, Try.ntmps10
      go_wp2_with fail
      go_ret2
      exact Or.inl ⟨HN.out, _, rfl, ⟨none, 0, heap_alloc_new w _, Nat.le_refl _, Mine.nil _ _ _, fun a e => by cases e⟩, below_new _ _⟩

set_option maxRecDepth 100000 in
set_option maxHeartbeats 400000 in
theorem check_any {F : Nat → Prop} {w : World} {g : Nat} {m : Int} {s : St} (h : Dec F w g m s) :
    Calls Try.prog 28 #[.pointer (some ⟨g, 0, none⟩)] w fun e w' => e = .returned (.int .i64 (feedE s : Int)) ∧ w = w' := by
  obtain ⟨A, c, h1, _⟩ := h.has
  obtain ⟨c0, c1, c2, c3, _, _⟩ := cells_of h1
  clear h h1
  unfold feedE
  obtain ⟨hd, b⟩ := s
  cases b
  all_goals
    simp only at c1 c3 ⊢
    go_enter Try.func28, Try.ntmps28
    go_wp2_with fail
    go_ret
    exact ⟨rfl, rfl⟩

/-- What Feed leaves. -/
def feedPost (F : Nat → Prop) (w : World) (g : Nat) (m : Int) (s : St) (l : Bs) : Ending → World → Prop := fun e w' =>
  e = .returned (.int .i64 (feedE s : Int)) ∧ Dec (More F w) w' g m (feed s l) ∧ Only F w w'
set_option maxRecDepth 100000 in
set_option maxHeartbeats 400000 in
theorem feed_any {F : Nat → Prop} {w : World} {g : Nat} {m : Int} {s : St} (h : Dec F w g m s) (X : Option Addr) (l : Bs) (n k : Nat) (hn : l.length = n) (hX : Rb w X l) (hXn : X = none → k = 0) (hs : s.held.length ≤ 100000000) (hl : l.length ≤ 100000000) :
    Calls Try.prog 13 #[.pointer (some ⟨g, 0, none⟩), .slice X n k] w (feedPost F w g m s l) := by
  subst hn
  have HC := Lib.hid (check_any h)
  have HD := Lib.hid h
  obtain ⟨A, c, h1, h2, h3, h4⟩ := h.has
  obtain ⟨c0, c1, c2, c3, f1, f3⟩ := cells_of h1
  have H1 := Lib.hid h1; have H2 := Lib.hid h2; have H3 := Lib.hid h3; have H4 := Lib.hid h4
  have HX := Lib.hid (src_rb hX hXn)
  have HF : Hid (s.shut = true → feed s l = s) := fun e => by unfold feed; rw [e]; rfl
  have HF2 : Hid (s.shut = false → feed s l = ⟨s.held ++ l, false⟩) := fun e => by unfold feed; rw [e]; rfl
  have HE : Hid (feedE s = if s.shut then 14 else 0) := rfl
  clear h h1 h2 h3 h4 hX hXn
  cases hb : s.shut
  · have e0 : feedE s = 0 := by rw [HE.out, hb]; rfl
    have HFF := Lib.hid (HF2.out hb)
    rw [hb] at H1 c3
    unfold feedPost
    rw [e0] at HC ⊢
    rw [HFF.out]
    clear hb e0 HE HF HF2 HFF HD
    go_enter Try.func13, Try.ntmps13
    go_wp2_with fail
    refine HC.out.mono ?_
    rintro e w' ⟨rfl, rfl⟩
    go_wp2_with (at_builtin; (refine wpList_mine rfl _ _ elmB _ rfl rfl H3.out _ rfl _ _ HX.out (by omega) (by omega) (Nat.zero_le _) ?_))
    intro A' c' w1 m1 g1 d1
    have M1 := Lib.hid m1
    have hlt := (Array.getElem?_eq_some_iff.1 H1.out).1
    have hgb : w1.heap[g]? = w.heap[g]? := g1.block g hlt (fun e => by
      have e := e.symm
      rw [Option.map_eq_some_iff] at e
      obtain ⟨a, ha, e⟩ := e
      exact (H4.out a ha).2 e)
    have H1' := Lib.hid H1.out
    rw [← hgb] at H1'
    have O1 : Only F w w1 := Only.of_grown g1 (fun k e => by
      rw [Option.map_eq_some_iff] at e
      obtain ⟨a, ha, e⟩ := e
      rw [← e]; exact (H4.out a ha).1)
    have HO := Lib.hid O1
    have N1 : ∀ a, A' = some a → More F w a.block ∧ a.block ≠ g := fun a ha => by
      rcases d1 with d1 | d1
      · rw [d1] at ha; exact ⟨Or.inl (H4.out a ha).1, (H4.out a ha).2⟩
      · have := d1 a ha; exact ⟨Or.inr this, by omega⟩
    have HN := Lib.hid N1
    clear c0 c1 c2 c3 f1 f3
    obtain ⟨c0, c1, c2, c3, f1, f3⟩ := cells_of H1'.out
    clear m1 g1 d1 hgb O1 N1 hlt
    go_wp2_with fail
    go_ret
    have hm : MineB 0 w1 A' (s.held ++ l) c' := by
      have := M1.out
      rw [map_app, ← List.length_append] at this
      exact this
    refine ⟨rfl, ⟨A', c', ?_, Or.inl H2.out, mine_other hm (fun a ha => (HN.out a ha).2) _, HN.out⟩, HO.out.setCell (ad := ⟨g, 1, none⟩) (Or.inl H2.out) _⟩
    rw [List.length_append]
    exact dec_held H1'.out
  · have e0 : feedE s = 14 := by rw [HE.out, hb]; rfl
    have HFF := Lib.hid (HF.out hb)
    unfold feedPost
    rw [e0] at HC ⊢
    rw [HFF.out]
    clear hb e0 HE HF HF2 HFF
    go_enter Try.func13, Try.ntmps13
    go_wp2_with fail
    refine HC.out.mono ?_
    rintro e w' ⟨rfl, rfl⟩
    go_wp2_with fail
    go_ret
    exact ⟨rfl, HD.out.mono (fun _ _ hf => Or.inl hf), Only.refl _ _⟩

set_option maxRecDepth 100000 in
set_option maxHeartbeats 400000 in
theorem held_any {F : Nat → Prop} {w : World} {g : Nat} {m : Int} {s : St} (h : Dec F w g m s) :
    Calls Try.prog 18 #[.pointer (some ⟨g, 0, none⟩)] w fun e w' => e = .returned (.int .i64 (s.held.length : Int)) ∧ w = w' := by
  obtain ⟨A, c, h1, _⟩ := h.has
  obtain ⟨c0, c1, c2, c3, _, _⟩ := cells_of h1
  clear h h1
  go_enter Try.func18, Try.ntmps18
  go_wp2_with fail
  go_ret
  exact ⟨rfl, rfl⟩
set_option maxRecDepth 100000 in
set_option maxHeartbeats 400000 in
theorem closed_any {F : Nat → Prop} {w : World} {g : Nat} {m : Int} {s : St} (h : Dec F w g m s) :
    Calls Try.prog 21 #[.pointer (some ⟨g, 0, none⟩)] w fun e w' => e = .returned (.bool s.shut) ∧ w = w' := by
  obtain ⟨A, c, h1, _⟩ := h.has
  obtain ⟨c0, c1, c2, c3, _, _⟩ := cells_of h1
  clear h h1
  go_enter Try.func21, Try.ntmps21
  go_wp2_with fail
  go_ret
  exact ⟨rfl, rfl⟩

/-- What Copy leaves. -/
def copyPost (w : World) (m : Int) (s : St) : Ending → World → Prop := fun e w' =>
  ∃ g, e = .returned (.pointer (some ⟨g, 0, none⟩)) ∧ Dec (fun j => w.heap.size ≤ j) w' g m s ∧ Below w.heap.size w w'
set_option maxRecDepth 100000 in
set_option maxHeartbeats 400000 in
theorem copy_any {F : Nat → Prop} {w : World} {g : Nat} {m : Int} {s : St} (h : Dec F w g m s) (hs : s.held.length ≤ 1000000000) :
    Calls Try.prog 17 #[.pointer (some ⟨g, 0, none⟩)] w (copyPost w m s) := by
  have hlt := h.lt
  obtain ⟨A, c, h1, h2, h3, h4⟩ := h.has
  obtain ⟨c0, c1, c2, c3, f1, f3⟩ := cells_of h1
  obtain ⟨w0, hw0⟩ : ∃ w0, w0 = w.alloc (.cells #[.int .i64 m, .slice A s.held.length c, .bool true, .bool s.shut] 59) := ⟨_, rfl⟩
  have B0 : Below w.heap.size w w0 := by rw [hw0]; exact below_new _ _
  have h10 : w0.heap[w.heap.size]? = some (.cells #[.int .i64 m, .slice A s.held.length c, .bool true, .bool s.shut] 59 (0, 0)) := by rw [hw0]; exact heap_alloc_new _ _
  have HR := Lib.hid ((rb_mine h3).below B0 (Nat.le_refl _))
  have H10 := Lib.hid h10
  have HB0 := Lib.hid B0
  have cc1 : w0.cell? ⟨g, 1, none⟩ = some (.slice A s.held.length c) := by rw [B0.cell (p := ⟨g, 1, none⟩) hlt]; exact c1
  have hz0 : w.heap.size < w0.heap.size := by rw [hw0]; simp
  clear h h1 h2 h3 h4 f1 f3 h10 B0
  go_enter Try.func17, Try.ntmps17
  go_wp2_with fail
  rw [← hw0]
  clear hw0
  go_wp2_with fail
  refine (clone_any A s.held c w0 HR.out hs).mono ?_
  rintro e w1 ⟨v, rfl, hv, hb⟩
  obtain ⟨C, d, sh⟩ := own_shape hv
  obtain rfl := sh.val
  have HV := Lib.hid (mine_own hv)
  have HB1 := Lib.hid (HB0.out.trans (hb.mono HB0.out.size))
  have H11 := Lib.hid H10.out
  rw [← hb.block _ hz0] at H11
  obtain ⟨d0, d1, d2, d3, e1, e3⟩ := cells_of H11.out
  clear hv hb sh cc1
  go_wp2_with fail
  go_ret
  refine ⟨_, rfl, ⟨C, d, dec_held H11.out, Nat.le_refl _, ?_, fun a ha => ?_⟩, HB1.out.setCell (Nat.le_refl _) _⟩
  · exact mine_other (HV.out.mono (Nat.zero_le _)) (fun a ha => by have := (HV.out.base ha).1; omega) _
  · have := (HV.out.base ha).1
    exact ⟨by omega, by omega⟩
end Go.Proofs.Ytmphielkohnpgaa.Dd
