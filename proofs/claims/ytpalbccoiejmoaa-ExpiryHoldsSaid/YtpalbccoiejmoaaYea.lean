/- Proves the contracts of the methods of the program's heap of deadlines that only look, and of New. Conditions: as each theorem names them. -/
import Derived.Test.YtpalbccoiejmoaaYd
import Derived.Test.YtpalbccoiejmoaaZt
import Derived.Laws.MakeOwn
import Derived.OwnWalk
namespace Go.Proofs.Ytpalbccoiejmoaa.Ye
open Go.RowKit Go.Maps Ap Mi Nw Ya Yb Yc Yd Zk Zm Za Zl Zs Zt

/-- The heap in block g, all its blocks in F, is L. -/
structure Hp (F : Nat → Prop) (w : World) (g : Nat) (L : List Td) : Prop where
  has : ∃ (A : Option Addr) (c B : Nat) (D : DataW Unit) (Q : List Td) (f : Int → Int), Lo w g A c B D Q ∧ (F g ∧ F B ∧ ∀ a, A = some a → F a.block) ∧ Md D (fun m => m ∈ ns Q) Q.length f ∧ Plc f Q ∧ HeapQ Q ∧ Q.Perm L
  srt : Srt L
section
variable {F F' : Nat → Prop} {w w' : World} {g : Nat} {L : List Td}
theorem Hp.lt (h : Hp F w g L) : g < w.heap.size := by obtain ⟨A, c, B, D, Q, f, h1, _⟩ := h.has; exact h1.bk.lt
theorem Hp.inF (h : Hp F w g L) : F g := by obtain ⟨A, c, B, D, Q, f, _, h1, _⟩ := h.has; exact h1.1
theorem Hp.mono (h : Hp F w g L) (hFG : ∀ j, j < w.heap.size → F j → F' j) : Hp F' w g L := by
  obtain ⟨⟨A, c, B, D, Q, f, h1, h2, h3⟩, h5⟩ := h
  exact ⟨⟨A, c, B, D, Q, f, h1, ⟨hFG _ h1.bk.lt h2.1, hFG _ h1.ob.lt h2.2.1, fun a ha => hFG _ (h1.mi.base ha).2.1 (h2.2.2 a ha)⟩, h3⟩, h5⟩
theorem Hp.tight (h : Hp F w g L) : Hp (fun j => F j ∧ j < w.heap.size) w g L := h.mono fun _ hj hf => ⟨hf, hj⟩
theorem Hp.only (h : Hp F w g L) (ho : Only F' w w') (hn : ∀ j, F j → ¬ F' j) : Hp F w' g L := by
  obtain ⟨⟨A, c, B, D, Q, f, h1, h2, h3⟩, h5⟩ := h
  exact ⟨⟨A, c, B, D, Q, f, h1.kept ho (hn _ h2.1) (hn _ h2.2.1) (fun a ha => hn _ (h2.2.2 a ha)), h2, h3⟩, h5⟩
theorem Hp.below {B : Nat} (h : Hp F w g L) (hb : Below B w w') (hB : w.heap.size ≤ B) : Hp F w' g L :=
  h.only (Only.of_below hb hB (fun _ => False)) (fun _ _ hf => hf)
/-- What a call leaves that may write. -/
def wrPost (F : Nat → Prop) (w : World) (g : Nat) (L : List Td) (v : Value) : Ending → World → Prop := fun e w' => e = .returned v ∧ Hp (More F w) w' g L ∧ Only F w w'
/-- What a call leaves that makes a heap. -/
def mkPost (w : World) (L : List Td) : Ending → World → Prop := fun e w' => ∃ g, e = .returned (.pointer (some ⟨g, 0, none⟩)) ∧ Hp (fun j => w.heap.size ≤ j) w' g L ∧ Below w.heap.size w w'
/-- What a call leaves that only looks. -/
def lkPost (w : World) (v : Value) : Ending → World → Prop := fun e w' => e = .returned v ∧ Below w.heap.size w w'
/-- What Due leaves. -/
def duPost (F : Nat → Prop) (w : World) (g : Nat) (L M : List Td) : Ending → World → Prop := fun e w' => ∃ F' A c, e = .returned (.tuple #[.slice A M.length c, .int .i64 0]) ∧ Hp F' w' g L ∧ (∀ j, F' j → F j ∨ w.heap.size ≤ j) ∧ Lt w' A M c ∧ (∀ a, A = some a → w.heap.size ≤ a.block ∧ a.block < w'.heap.size ∧ ¬ F' a.block) ∧ Only F w w'
/-- What List leaves: a row of the caller's own. -/
def listPost (w : World) (L : List Td) : Ending → World → Prop := fun e w' => ∃ A c, e = .returned (.slice A L.length c) ∧ Mine w.heap.size 2 w' A L.length c (tv L) ∧ Below w.heap.size w w'
/-- The first one, and an error. -/
def oldV (L : List Td) : Td := L.headD (0, 0)
def oldN (L : List Td) : Int := if L.length = 0 then 9 else 0
def tval (x : Td) : Value := .agg #[.int .i64 x.1, .int .u64 x.2]
theorem lk_same {w : World} {v : Value} {f : Nat} {args : Array Value} (h : Calls Try.prog f args w fun e w' => e = .returned v ∧ w' = w) : Calls Try.prog f args w (lkPost w v) := by
  refine h.mono ?_
  rintro e w' ⟨rfl, rfl⟩
  exact ⟨rfl, Below.refl _ _⟩
set_option maxRecDepth 100000 in
theorem new_any (w : World) : Calls Try.prog 9 #[] w (mkPost w []) := by
  have hmm := @run_makeMap Try.prog
  obtain ⟨v, hv⟩ : ∃ v, v = (w.alloc (.map #[] 0)).alloc (.cells #[.slice none 0 0, .map (some w.heap.size)] 55) := ⟨_, rfl⟩
  have HB : Hid (Below w.heap.size w v) := by show Below _ _ _; rw [hv]; exact (bnew w _).alloc (by simp) _
  have HL : Hid (Lo v (w.heap.size + 1) none 0 w.heap.size (.map []) []) := by
    have e0 : (w.alloc (.map #[] 0)).heap.size = w.heap.size + 1 := by simp
    refine ⟨?_, ?_, Mine.nil _ _ _, by omega, fun a ha => by cases ha⟩
    · have := Blk.new (w.alloc (.map #[] 0)) #[.slice none 0 0, .map (some w.heap.size)] 55
      rw [e0] at this; rw [hv]; exact this
    · rw [hv]
      exact Own.of ((made w).kept ((Only.refl (fun _ => False) _).alloc _) (fun h => h))
  unfold mkPost
  go_enter Try.func9, Try.ntmps9
  go_wp2_with fail
  go_ret
  rw [← hv]
  refine ⟨w.heap.size + 1, by simp, ⟨⟨none, 0, w.heap.size, .map [], [], id, HL.out, ⟨by show _ ≤ _; omega, Nat.le_refl _, fun a ha => by cases ha⟩, (md_nil (f := id)).ext (fun m => by simp [ns]) rfl (fun _ _ => rfl), fun k hk => by simp at hk, HeapQ.nil, List.Perm.refl _⟩, Srt.nil⟩, HB.out⟩
end
/-- The place that look tells. -/
def lkV (f : Int → Int) (Q : List Td) (n : Int) : Int := if n ∈ ns Q then f n else 0
section
variable {w : World} {g c B k : Nat} {A : Option Addr} {D : DataW Unit} {Q : List Td} {f : Int → Int}
set_option maxRecDepth 100000 in
theorem look_in (h : Lo w g A c B D Q) (hm : Md D (fun m => m ∈ ns Q) k f) {n : Int} (hs : Sl n) :
    Calls Try.prog 31 #[.pointer (some ⟨g, 0, none⟩), .int .i64 n] w fun e w' => e = .returned (.tuple #[.int .i64 (lkV f Q n), .bool (decide (n ∈ ns Q)), .int .i64 0]) ∧ w' = w := by
  have HU := Lib.hid (usable_any h.bk)
  have HO := Lib.hid h.ob
  have HS := Lib.hid hs
  obtain ⟨x0, x1, _⟩ := h.bk.two
  have HV : Hid (D.atKey (kl n) (.lit (.int .i64 0)) = .lit (.int .i64 (lkV f Q n)) ∧ has D (kl n) = decide (n ∈ ns Q)) := by
    show _ ∧ _
    unfold lkV
    by_cases hn : n ∈ ns Q
    · rw [if_pos hn]; exact ⟨hm.val n hn, by rw [(hm.mem n).2 hn]; simp [hn]⟩
    · rw [if_neg hn]; exact ⟨(hm.no hn).2, by rw [(hm.no hn).1]; simp [hn]⟩
  obtain ⟨v, hv⟩ : ∃ v, v = lkV f Q n := ⟨_, rfl⟩
  obtain ⟨s, hs'⟩ : ∃ s, s = decide (n ∈ ns Q) := ⟨_, rfl⟩
  rw [← hv, ← hs'] at HV ⊢
  have h0 : 0 ≤ n := hs.1
  have h1 : n < 1048576 := hs.2
  clear h hm hs hv hs'
  go_enter Try.func31, Try.ntmps31
  go_wp2_with fail
  refine HU.out.mono ?_
  rintro e w1 ⟨rfl, rfl⟩
  go_wp2_with (at_lookup; refine at_ok _ rfl _ _ rfl B _ D rfl HO.out n (in_sl HS.out) rfl v s HV.out.1 HV.out.2 ?_)
  go_ret3
  exact ⟨rfl, rfl⟩
set_option maxRecDepth 100000 in
theorem look_no (h : Lo w g A c B D Q) {n : Int} (hs : ¬ Sl n) :
    Calls Try.prog 31 #[.pointer (some ⟨g, 0, none⟩), .int .i64 n] w fun e w' => e = .returned (.tuple #[.int .i64 0, .bool false, .int .i64 2]) ∧ w' = w := by
  have HU := Lib.hid (usable_any h.bk)
  obtain ⟨x0, x1, _⟩ := h.bk.two
  by_cases h0 : 0 ≤ n
  · have h1 : (1048576 : Int) ≤ n := by
      rcases Int.lt_or_le n 1048576 with h2 | h2
      · exact absurd ⟨h0, h2⟩ hs
      · exact h2
    clear h hs
    go_enter Try.func31, Try.ntmps31
    go_wp2_with fail
    refine HU.out.mono ?_
    rintro e w1 ⟨rfl, rfl⟩
    go_wp2_with fail
    go_ret3
    exact ⟨rfl, rfl⟩
  · have h1 : n < 0 := by omega
    clear h hs h0
    go_enter Try.func31, Try.ntmps31
    go_wp2_with fail
    refine HU.out.mono ?_
    rintro e w1 ⟨rfl, rfl⟩
    go_wp2_with fail
    go_ret3
    exact ⟨rfl, rfl⟩
end
end Go.Proofs.Ytpalbccoiejmoaa.Ye
