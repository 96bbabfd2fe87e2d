/- Proves what the functions of package key return at given answers: the forms that the law's check of the document's examples takes. Conditions: as the contracts ask. -/
import Derived.Test.YtjieiakgikhofaaDoorKz
import Derived.Test.YtjieiakgikhofaaDoorKc
namespace Go.Proofs.YtjieiakgikhofaaDoor.Ka
open Go.RowKit Km Kt Kv Kl Kc Ap Kx Ky Kr Ks Kf Kg Kj Ku Kz

theorem sz (l : List UInt8) (h : l.length ≤ 1000000) : (⟨l.toArray⟩ : ByteArray).size ≤ maxLen := by unfold maxLen; show l.toArray.size ≤ _; simp; omega
theorem valid_at (s : ByteArray) (b : Bool) (w : World) (hs : s.size ≤ maxLen) (h : validS s = b) :
    Calls Tryd.prog 11 #[.string s] w fun e w' => e = .returned (.bool b) ∧ w = w' := by rw [← h]; exact valid_any s w hs
theorem validTag_at (s : ByteArray) (b : Bool) (w : World) (hs : s.size ≤ maxLen) (h : validTagS s = b) :
    Calls Tryd.prog 13 #[.string s] w fun e w' => e = .returned (.bool b) ∧ w = w' := by rw [← h]; exact validTag_any s w hs
theorem validPre_at (s : ByteArray) (b : Bool) (w : World) (hs : s.size ≤ maxLen) (h : validPreS s = b) :
    Calls Tryd.prog 15 #[.string s] w fun e w' => e = .returned (.bool b) ∧ w = w' := by rw [← h]; exact validPre_any s w hs
theorem has_at (s p : ByteArray) (b : Bool) (w : World) (h : hasS s p = b) :
    Calls Tryd.prog 17 #[.string s, .string p] w fun e w' => e = .returned (.bool b) ∧ w = w' := by rw [← h]; exact has_any s p w
/-- One more list that stands in memory behind the call. -/
structure After (w w' : World) : Prop where
  below : Below w.heap.size w w'
  rd : ∀ A l, Rd w A l → Rd w' A l
theorem After.of {w w' : World} (h : Below w.heap.size w w') : After w w' := ⟨h, fun _ _ hr => hr.below h (Nat.le_refl _)⟩
def valAfter (w : World) (v : Value) : Ending → World → Prop := fun e w' => e = .returned v ∧ After w w'
theorem After.drewN (w : World) (n : Nat) : After w (w.drewN n) := After.of (below_drewN (Below.refl _ _) n)
theorem common_at (a b : ByteArray) (n : Int) (w : World) (ha : a.size ≤ maxLen) (h : (comS a b : Int) = n) :
    Calls Tryd.prog 19 #[.string a, .string b] w (valAfter w (.int .i64 n)) := by
  rw [← h]
  refine (common_any a b w ha).mono fun _ w' hh => ⟨hh.1, ?_⟩
  obtain ⟨m, rfl⟩ := hh.2
  exact After.drewN _ _
def listRes (w : World) (l : List Bs) (n : Nat) (e0 : Int) : Ending → World → Prop := fun e w' => ∃ A c, e = .returned (.tuple #[.slice A n c, .int .i64 e0]) ∧ n ≤ c ∧ Rd w' A l ∧ After w w'
theorem res_of {w : World} {l m : List Bs} {n : Nat} {a b : Int} {e : Ending} {w' : World} (hh : strsPost w l a e w') (h : l = m) (hn : m.length = n) (hab : a = b) : listRes w m n b e w' := by
  obtain ⟨v, rfl, hown, hb⟩ := hh
  obtain ⟨A, c, rfl, hc⟩ := own_shape (own_row hown)
  subst h; subst hn; subst hab
  exact ⟨A, c, rfl, hc, Rd.of_own (own_row hown), After.of hb⟩
theorem segments_at (s : ByteArray) (l : List Bs) (n : Nat) (e : Int) (w : World) (he : Env w) (hs : s.size ≤ maxLen) (h : segsR s = l) (hn : l.length = n) (h' : argE s = e) :
    Calls Tryd.prog 21 #[.string s] w (listRes w l n e) := (segments_any s w he hs).mono fun _ _ hh => res_of hh h hn h'
theorem folders_at (s : ByteArray) (l : List Bs) (n : Nat) (e : Int) (w : World) (hs : s.size ≤ maxLen) (h : foldsR s = l) (hn : l.length = n) (h' : argE s = e) :
    Calls Tryd.prog 22 #[.string s] w (listRes w l n e) := (folders_any s w hs).mono fun _ _ hh => res_of hh h hn h'
theorem tags_at (A : Option Addr) (k c : Nat) (t l : List Bs) (n : Nat) (e : Int) (w : World) (hk : t.length = k) (hA : Rd w A t) (ht : t.length ≤ 1000000) (hx : ∀ x ∈ t, x.length ≤ 1000000) (h : tagsV t = l) (hn : l.length = n) (h' : tagsE t = e) :
    Calls Tryd.prog 29 #[.slice A k c] w (listRes w l n e) := by subst hk; exact (tags_any A c t w hA ht hx).mono fun _ _ hh => res_of hh h hn h'
def strRes (w : World) (x : Bs) (e0 : Int) : Ending → World → Prop := fun e w' => e = .returned (.tuple #[.string ⟨x.toArray⟩, .int .i64 e0]) ∧ After w w'
theorem join_at (A : Option Addr) (k c : Nat) (t : List Bs) (x : Bs) (e : Int) (w : World) (he : Env w) (hk : t.length = k) (hA : Rd w A t) (hc : k ≤ c) (ht : t.length ≤ 1000000) (hx : ∀ x ∈ t, x.length ≤ 1000000) (h : joinV t = x) (h' : joinE t = e) :
    Calls Tryd.prog 26 #[.slice A k c] w (strRes w x e) := by
  subst hk; subst h; subst h'
  exact (join_any A c t w he hA hc ht hx).mono fun _ _ hh => ⟨hh.1, After.of hh.2⟩
theorem text_at (s : ByteArray) (x : Bs) (w : World) (he : Env w) (hs : s.size ≤ 250) (h : textL s.data.toList = x) :
    Calls Tryd.prog 32 #[.string s] w (strRes w x 0) := by
  subst h
  refine (text_any s w he (by unfold maxLen; omega)).mono fun _ _ hh => ⟨?_, After.of hh.2⟩
  rw [hh.1, if_neg (by omega), if_neg (by omega)]; rfl
theorem list_true (A B : Option Addr) (n k c d : Nat) (l m : List Bs) (e no : Int) (w : World) (hn : l.length = n) (hk : m.length = k) (hA : Rd w A l) (hB : Rd w B m) (hl : l.length ≤ 1000000) (h : l = m) (h' : e = no) :
    Calls Tryd.prog 23 #[.slice A n c, .int .i64 e, .slice B k d, .int .i64 no] w (valAfter w (.bool true)) := by
  subst hn; subst hk; subst h; subst h'
  refine (list_any A B l l c d e e w hA hB hl hl).mono fun _ w' hh => ⟨?_, ?_⟩
  · rw [hh.1, (okL_iff l l e e).2 ⟨rfl, rfl⟩]
  · obtain ⟨m, rfl⟩ := hh.2
    exact After.drewN _ _
theorem one_true (x y : ByteArray) (e no : Int) (w : World) (h : x.data.toList = y.data.toList) (h' : e = no) :
    Calls Tryd.prog 28 #[.string x, .int .i64 e, .string y, .int .i64 no] w fun r w' => r = .returned (.bool true) ∧ w = w' := by
  refine (one_any x y e no w).mono fun _ _ hh => ⟨?_, hh.2⟩
  rw [hh.1, (okS_iff _ _ _ _).2 ⟨h, h'⟩]
def boolAfter (w : World) : Ending → World → Prop := fun r w' => r = .returned (.bool true) ∧ After w w'
theorem parses_true (s want : ByteArray) (no : Int) (w : World) (he : Env w) (hs : s.size ≤ maxLen) (h : parseR s = want.data.toList) (h' : parseE s = no) :
    Calls Tryd.prog 35 #[.string s, .string want, .int .i64 no] w (boolAfter w) := by
  refine (parses_any s want no w he hs).mono fun _ _ hh => ⟨?_, After.of hh.2⟩
  rw [hh.1, (okS_iff _ _ _ _).2 ⟨h, h'⟩]
theorem Rd.lit (w : World) (l : List Bs) : Rd (w.alloc (.cells (l.map strV).toArray 9)) (some ⟨w.heap.size, 0, none⟩) l := fun _ =>
  ⟨w.heap.size, 0, rfl, by simp, fun j hj => by
    rw [Nat.zero_add, cell_of_row _ _ j _ _ (0, 0) (heap_alloc_new w _)]
    simp [List.getElem?_eq_getElem hj, strV]⟩
theorem After.alloc (w : World) (o : Obj) : After w (w.alloc o) := After.of ((Below.refl _ _).alloc (Nat.le_refl _) o)
theorem After.trans {a b c : World} (h : After a b) (k : After b c) : After a c := ⟨h.below.trans (k.below.mono h.below.size), fun A l hr => k.rd A l (h.rd A l hr)⟩
theorem env_after {w w' : World} (h : Env w) (k : After w w') : Env w' := h.below k.below (Nat.le_refl _)
end Go.Proofs.YtjieiakgikhofaaDoor.Ka
