/- Proves what key.Tags and key.Valid return: tags are the keys of a map, which is gone through in whatever order, and sorted; in words of lists of strings in memory. Conditions: as each theorem names them. -/
import Derived.Test.YtocfinhbocjbgaaAp
import Derived.Test.YtocfinhbocjbgaaRows
import Derived.Test.YtocfinhbocjbgaaShelf
import Derived.Lib.Hide
import Derived.Lib.Strings
import Derived.WalkKit
import Derived.WalkSpells
import Derived.WalkLawsBesides
import Derived.Laws.Rows
import Derived.BigQuiet
import Derived.Deep.QuietTactic
import Derived.Sort.KeysCollected
import Derived.Sort.OwnSorted
import Derived.Maps.RangeWalk
import Derived.Maps.OwnSet
import Derived.Maps.Own
namespace Go.Proofs.Ytocfinhbocjbgaa.Km
open Go

abbrev Bs := List UInt8

/-! ### bytes -/
/-! ### texts -/
/-! ### Text and Parse invert each other -/
end Go.Proofs.Ytocfinhbocjbgaa.Km
namespace Go.Proofs.Ytocfinhbocjbgaa.Kt
open Go Km

/-! ### what two strings begin with together -/
/-! ### segments -/
/-! ### a key out of segments -/
def validL (s : Bs) : Bool := decide (1 ≤ s.length ∧ s.length ≤ 250)
/-! ### folders -/
/-! ### tags in order -/
def ins (x : Bs) : List Bs → List Bs
  | [] => [x]
  | y :: r => if y < x then y :: ins x r else if y = x then y :: r else x :: y :: r
def Sorted (l : List Bs) : Prop := l.Pairwise (· < ·)
theorem mem_ins (x z : Bs) (l : List Bs) : z ∈ ins x l ↔ z = x ∨ z ∈ l := by
  induction l with
  | nil => simp [ins]
  | cons y r ih =>
    unfold ins
    split
    · simp only [List.mem_cons, ih]
      constructor
      · rintro (h | h | h) <;> simp [h]
      · rintro (h | h | h) <;> simp [h]
    · split
      · rename_i h; subst h; simp
      · simp
theorem lt_of {x y : Bs} (h1 : ¬ y < x) (h2 : ¬ y = x) : x < y := by
  rcases List.le_total x y with h | h
  · rcases List.le_iff_lt_or_eq.1 h with h | h
    · exact h
    · exact absurd h.symm h2
  · rcases List.le_iff_lt_or_eq.1 h with h | h
    · exact absurd h h1
    · exact absurd h h2
theorem ins_sorted (x : Bs) (l : List Bs) (h : Sorted l) : Sorted (ins x l) := by
  induction l with
  | nil => simp [ins, Sorted]
  | cons y r ih =>
    have hr := List.pairwise_cons.1 h
    unfold ins
    split
    · rename_i hy
      refine List.pairwise_cons.2 ⟨fun z hz => ?_, ih hr.2⟩
      rcases (mem_ins x z r).1 hz with rfl | hz
      · exact hy
      · exact hr.1 z hz
    · split
      · exact h
      · rename_i h1 h2
        have hxy := lt_of h1 h2
        refine List.pairwise_cons.2 ⟨fun z hz => ?_, h⟩
        rcases List.mem_cons.1 hz with rfl | hz
        · exact hxy
        · exact List.lt_trans hxy (hr.1 z hz)
def tagsL (l : List Bs) : List Bs := l.foldl (fun acc x => ins x acc) []
theorem tags_sorted_aux (l acc : List Bs) (h : Sorted acc) : Sorted (l.foldl (fun acc x => ins x acc) acc) := by
  induction l generalizing acc with
  | nil => exact h
  | cons x r ih => exact ih _ (ins_sorted x acc h)
theorem tags_sorted (l : List Bs) : Sorted (tagsL l) := tags_sorted_aux l [] (by simp [Sorted])
theorem mem_tags_aux (l acc : List Bs) (z : Bs) : z ∈ l.foldl (fun acc x => ins x acc) acc ↔ z ∈ l ∨ z ∈ acc := by
  induction l generalizing acc with
  | nil => simp
  | cons x r ih =>
    rw [List.foldl_cons, ih, mem_ins]
    simp only [List.mem_cons]
    constructor
    · rintro (h | h | h) <;> simp [h]
    · rintro ((h | h) | h) <;> simp [h]
theorem mem_tags (l : List Bs) (z : Bs) : z ∈ tagsL l ↔ z ∈ l := by unfold tagsL; rw [mem_tags_aux]; simp
theorem sorted_ext : ∀ (a b : List Bs), Sorted a → Sorted b → (∀ z, z ∈ a ↔ z ∈ b) → a = b
  | [], [], _, _, _ => rfl
  | [], y :: r, _, _, h => by have := (h y).2 (by simp); simp at this
  | x :: r, [], _, _, h => by have := (h x).1 (by simp); simp at this
  | x :: r, y :: q, ha, hb, h => by
    have h1 := List.pairwise_cons.1 ha
    have h2 := List.pairwise_cons.1 hb
    have e : x = y := by
      rcases List.mem_cons.1 ((h x).1 (by simp)) with e | e
      · exact e
      · rcases List.mem_cons.1 ((h y).2 (by simp)) with e' | e'
        · exact e'.symm
        · exact absurd (List.lt_trans (h1.1 y e') (h2.1 x e)) (List.lt_irrefl x)
    subst e
    rw [sorted_ext r q h1.2 h2.2 fun z => ?_]
    have hz := h z
    simp only [List.mem_cons] at hz
    constructor
    · intro hr
      rcases hz.1 (Or.inr hr) with e | e
      · subst e; exact absurd (h1.1 z hr) (List.lt_irrefl z)
      · exact e
    · intro hq
      rcases hz.2 (Or.inr hq) with e | e
      · subst e; exact absurd (h2.1 z hq) (List.lt_irrefl z)
      · exact e
theorem tags_of_sorted (l : List Bs) (h : Sorted l) : tagsL l = l := sorted_ext _ _ (tags_sorted l) h (mem_tags l)
theorem merge_tags (ss l : List Bs) (hn : ss.Nodup) (hm : ∀ z, z ∈ ss ↔ z ∈ l) : ss.mergeSort (fun x y => decide (x ≤ y)) = tagsL l := by
  have tr : ∀ a b c : Bs, decide (a ≤ b) = true → decide (b ≤ c) = true → decide (a ≤ c) = true := fun a b c h1 h2 => by simp only [decide_eq_true_eq] at *; exact List.le_trans h1 h2
  have to : ∀ a b : Bs, (decide (a ≤ b) || decide (b ≤ a)) = true := fun a b => by simp only [Bool.or_eq_true, decide_eq_true_eq]; exact List.le_total a b
  have hp := List.mergeSort_perm ss (fun x y => decide (x ≤ y))
  refine sorted_ext _ _ ?_ (tags_sorted l) fun z => by rw [hp.mem_iff, hm, mem_tags]
  have hs := List.pairwise_mergeSort tr to ss
  have hd : (ss.mergeSort fun x y => decide (x ≤ y)).Pairwise (· ≠ ·) := hp.symm.nodup hn
  refine (hs.and hd).imp_of_mem fun {a b} _ _ hab => ?_
  obtain ⟨h1, h2⟩ := hab
  simp only [decide_eq_true_eq] at h1
  rcases List.le_iff_lt_or_eq.1 h1 with h | h
  · exact h
  · exact absurd h h2
theorem ins_len (x : Bs) (l : List Bs) : (ins x l).length ≤ l.length + 1 := by
  induction l with
  | nil => simp [ins]
  | cons y r ih => unfold ins; split; · simp; omega
                   · split <;> simp
theorem tags_len_aux (l acc : List Bs) : (l.foldl (fun acc x => ins x acc) acc).length ≤ acc.length + l.length := by
  induction l generalizing acc with
  | nil => simp
  | cons x r ih => have := ih (ins x acc); have := ins_len x acc; simp only [List.foldl_cons, List.length_cons]; omega
theorem tags_len_le (l : List Bs) : (tagsL l).length ≤ l.length := by have := tags_len_aux l []; simpa [tagsL] using this
def validTagL (s : Bs) : Bool := decide (1 ≤ s.length ∧ s.length ≤ 64)
def tagsE (l : List Bs) : Int := if l.all validTagL then (if 16 < (tagsL l).length then 5 else 0) else 2
def tagsV (l : List Bs) : List Bs := if tagsE l = 0 then tagsL l else []
end Go.Proofs.Ytocfinhbocjbgaa.Kt
namespace Go.Proofs.Ytocfinhbocjbgaa.Kv
open Go.RowKit Km Kt

theorem len_eq (s : ByteArray) : s.data.toList.length = s.size := by simp
def validS (s : ByteArray) : Bool := validL s.data.toList
theorem validS_yes {s : ByteArray} (h0 : 1 ≤ s.size) (h1 : s.size ≤ 250) : validS s = true := by unfold validS validL; rw [len_eq]; simpa using ⟨h0, h1⟩
theorem validS_no {s : ByteArray} (h0 : ¬ (1 ≤ s.size ∧ s.size ≤ 250)) : validS s = false := by unfold validS validL; rw [len_eq]; simpa using h0
def validTagS (s : ByteArray) : Bool := validTagL s.data.toList
theorem validTagS_yes {s : ByteArray} (h0 : 1 ≤ s.size) (h1 : s.size ≤ 64) : validTagS s = true := by unfold validTagS validTagL; rw [len_eq]; simpa using ⟨h0, h1⟩
theorem validTagS_no {s : ByteArray} (h0 : ¬ (1 ≤ s.size ∧ s.size ≤ 64)) : validTagS s = false := by unfold validTagS validTagL; rw [len_eq]; simpa using h0
theorem ret_b {a b : Bool} (h : a = b) : Ending.returned (.bool a) = .returned (.bool b) := by rw [h]

set_option maxHeartbeats 400000 in
theorem valid_any (s : ByteArray) (w : World) (hs : s.size ≤ maxLen) :
    Calls Try.prog 40 #[.string s] w fun e w' => e = .returned (.bool (validS s)) ∧ w = w' := by
  unfold maxLen at hs
  by_cases h0 : 1 ≤ s.size
  · by_cases h1 : s.size ≤ 250
    · have HV := Lib.hid (validS_yes h0 h1)
      go_enter Try.func40, Try.ntmps40
      go_wp2
      go_ret
      exact ⟨ret_b (by rw [HV.out]; simp; omega), rfl⟩
    · have HV := Lib.hid (validS_no (s := s) (by omega))
      have h2 : 250 < s.size := by omega
      clear h1
      go_enter Try.func40, Try.ntmps40
      go_wp2
      go_ret
      exact ⟨ret_b (by rw [HV.out]; simp; omega), rfl⟩
  · have HV := Lib.hid (validS_no (s := s) (by omega))
    have h2 : s.size < 1 := by omega
    clear h0
    go_enter Try.func40, Try.ntmps40
    go_wp2
    go_ret
    exact ⟨ret_b (by rw [HV.out]), rfl⟩

set_option maxHeartbeats 400000 in
theorem validTag_any (s : ByteArray) (w : World) (hs : s.size ≤ maxLen) :
    Calls Try.prog 42 #[.string s] w fun e w' => e = .returned (.bool (validTagS s)) ∧ w = w' := by
  unfold maxLen at hs
  by_cases h0 : 1 ≤ s.size
  · by_cases h1 : s.size ≤ 64
    · have HV := Lib.hid (validTagS_yes h0 h1)
      go_enter Try.func42, Try.ntmps42
      go_wp2
      go_ret
      exact ⟨ret_b (by rw [HV.out]; simp; omega), rfl⟩
    · have HV := Lib.hid (validTagS_no (s := s) (by omega))
      have h2 : 64 < s.size := by omega
      clear h1
      go_enter Try.func42, Try.ntmps42
      go_wp2
      go_ret
      exact ⟨ret_b (by rw [HV.out]; simp; omega), rfl⟩
  · have HV := Lib.hid (validTagS_no (s := s) (by omega))
    have h2 : s.size < 1 := by omega
    clear h0
    go_enter Try.func42, Try.ntmps42
    go_wp2
    go_ret
    exact ⟨ret_b (by rw [HV.out]), rfl⟩

end Go.Proofs.Ytocfinhbocjbgaa.Kv
namespace Go.Proofs.Ytocfinhbocjbgaa.Kx
open Go.RowKit Km Kt Kv Ap

/-! ### Text -/
def strV (l : List UInt8) : Value := .string ⟨l.toArray⟩
end Go.Proofs.Ytocfinhbocjbgaa.Kx
namespace Go.Proofs.Ytocfinhbocjbgaa.Ks
open Go.RowKit Km Kt Kv Ap Kx

/-- The slice at A reads as the list l. -/
def Rd (w : World) (A : Option Addr) (l : List Bs) : Prop :=
  0 < l.length → ∃ b o, A = some ⟨b, o, none⟩ ∧ b < w.heap.size ∧ ∀ j (h : j < l.length), w.cell? ⟨b, o + j, none⟩ = some (.string ⟨l[j].toArray⟩)
theorem Rd.below {w w' : World} {A : Option Addr} {l : List Bs} (h : Rd w A l) {B : Nat} (hb : Below B w w') (hB : w.heap.size ≤ B) : Rd w' A l := fun h0 => by
  obtain ⟨b, o, e, hlt, hc⟩ := h h0
  exact ⟨b, o, e, Nat.lt_of_lt_of_le hlt hb.size, fun j hj => by rw [hb.cell (by show b < B; omega)]; exact hc j hj⟩
theorem Rd.at_ {w : World} {A : Option Addr} {l : List Bs} (h : Rd w A l) {k : Nat} (hk : k < l.length) : ∃ b o, A = some ⟨b, o, none⟩ ∧ b < w.heap.size ∧ w.cell? ⟨b, o + k, none⟩ = some (.string ⟨l[k].toArray⟩) := by
  obtain ⟨b, o, e, hlt, hc⟩ := h (by omega)
  exact ⟨b, o, e, hlt, hc k hk⟩
theorem Rd.of_own {B : Nat} {e : TypeId} {w : World} {A : Option Addr} {c : Nat} {l : List Bs} (h : w.ownsRow B e 1 (.slice A l.length c) l.length (l.map strV)) : Rd w A l := fun h0 => by
  rcases h.2 with ⟨_, h1⟩ | ⟨g, cap, cur, hv, _, hg, _, _, _, ht⟩
  · omega
  · have hA : A = some ⟨g, 0, none⟩ := by injection hv
    refine ⟨g, 0, hA, (Array.getElem?_eq_some_iff.1 hg).1, fun j hj => ?_⟩
    rw [Nat.zero_add, cell_of_row w g j cur _ (0, 0) hg]
    have e : (cur.toList.take (l.length * 1))[j]? = (l.map strV)[j]? := by rw [ht]
    rw [List.getElem?_take, if_pos (by omega)] at e
    rw [← Array.getElem?_toList, e, List.getElem?_map, List.getElem?_eq_getElem hj]
    rfl
theorem own_shape {B : Nat} {e : TypeId} {w : World} {v : Value} {n : Nat} {xs : List Value} (h : w.ownsRow B e 1 v n xs) : ∃ A c, v = .slice A n c ∧ n ≤ c := by
  rcases h.2 with ⟨rfl, h1⟩ | ⟨g, cap, cur, rfl, _, _, hc, _⟩
  · exact ⟨none, 0, by rw [h1], by omega⟩
  · exact ⟨_, _, rfl, hc⟩

end Go.Proofs.Ytocfinhbocjbgaa.Ks
namespace Go.Proofs.Ytocfinhbocjbgaa.Kf
open Go.RowKit Km Kt Kv Ap Kx Ks

theorem elS : El Try.prog 22 9 (.string ⟨#[]⟩) where
  sl := Try.underlying22
  info := by kernel_rfl
  small := by
    have h : (Try.prog.info? 9).map (·.bytes) = some 16 := by kernel_rfl
    intro i hi; rw [hi] at h; simp at h; omega
  one := rfl
/-- A row of the call's own that reads as the list l. -/
def Own (B : Nat) (w : World) (v : Value) (l : List Bs) : Prop := w.ownsRow B 9 1 v l.length (l.map strV)
theorem own_row {B : Nat} {w : World} {v : Value} {l : List Bs} (h : Own B w v l) : w.ownsRow B 9 1 v l.length (l.map strV) := h
def strsPost (w : World) (l : List Bs) (n : Int) : Ending → World → Prop := fun e w' => ∃ v, e = .returned (.tuple #[v, .int .i64 n]) ∧ Own w.heap.size w' v l ∧ Below w.heap.size w w'
theorem own_nil (B : Nat) (w : World) : Own B w (.slice none 0 0) [] := World.ownsRow_nil _ _ _ _

theorem ret_vi {v v' : Value} {a b : Int} (h : v = v') (k : a = b) : Ending.returned (.tuple #[v, .int .i64 a]) = .returned (.tuple #[v', .int .i64 b]) := by rw [h, k]
end Go.Proofs.Ytocfinhbocjbgaa.Kf
namespace Go.Proofs.Ytocfinhbocjbgaa.Ku
open Go.RowKit Go.Maps Go.Sort Go.WideMaps Km Kt Kv Ap Kx Ks Kf

theorem keyS : Keyed Try.prog 9 := string_keyed Try.underlying9
abbrev Dt := DataW Unit
def Keys (D : Dt) (l : List Bs) : Prop := ∀ x, Maps.has D (.string x) = true ↔ x ∈ l
theorem Keys.put {D : Dt} {l : List Bs} {x : Bs} (h : Keys D l) (hD : IsMap D) : Keys (D.put (.string x) (.lit (.bool true))) (l ++ [x]) := by
  intro y
  by_cases hy : y = x
  · subst hy
    rw [Maps.has_put_same (k := .string y) hD trivial]; simp
  · rw [Maps.has_put_other (by intro e; exact hy (by injection e))]
    rw [h y]; simp [hy]
theorem keys_list {w : World} {b n : Nat} {D : Dt} {l : List Bs} (hown : w.ownsMap Try.prog 9 (plainElem Try.prog 4) b n D) (h : Keys D l) : (strKeys D).Nodup ∧ (∀ z, z ∈ strKeys D ↔ z ∈ l) ∧ Maps.size D = (strKeys D).length := by
  obtain ⟨es, rfl, hp, _⟩ := hown.entries keyS
  obtain ⟨es', e', hk⟩ := hown.keysOf
  have e'' : es = es' := by simpa using e'
  subst e''
  have hkk : ∀ p ∈ es, ∃ x, p.1 = .string x := fun p hp' => by
    obtain ⟨v, hv⟩ := hk p hp'
    obtain ⟨x, _, hx, _⟩ := Maps.keyOf_str Try.underlying9 hv
    exact ⟨x, hx⟩
  have hnd : (strKeys (DataW.map es : Dt)).Nodup := by
    show (es.map fun p => strOf p.1).Nodup
    refine List.pairwise_map.2 (hp.imp_of_mem fun {p q} hp' hq' hne e => hne ?_)
    obtain ⟨a, ha⟩ := hkk p hp'
    obtain ⟨b, hb⟩ := hkk q hq'
    rw [ha, hb] at e ⊢
    exact congrArg _ e
  refine ⟨hnd, fun z => ?_, by simp [strKeys, Maps.size_eq]⟩
  rw [← h z, Maps.has_eq, List.any_eq_true]
  show z ∈ es.map (fun p => strOf p.1) ↔ _
  rw [List.mem_map]
  constructor
  · rintro ⟨p, hp', rfl⟩
    obtain ⟨a, ha⟩ := hkk p hp'
    exact ⟨p, hp', by rw [ha]; simp [Lit.sameKey, strOf]⟩
  · rintro ⟨p, hp', hs⟩
    obtain ⟨a, ha⟩ := hkk p hp'
    rw [ha] at hs
    exact ⟨p, hp', by rw [ha]; simpa [Lit.sameKey, strOf] using hs⟩
theorem size_tags {w : World} {b n : Nat} {D : Dt} {l : List Bs} (hown : w.ownsMap Try.prog 9 (plainElem Try.prog 4) b n D) (h : Keys D l) : Maps.size D = (tagsL l).length := by
  obtain ⟨h1, h2, h3⟩ := keys_list hown h
  rw [h3, ← merge_tags _ _ h1 h2, List.length_mergeSort]
theorem perm_tags {D : Dt} {ss l : List Bs} {w : World} {b n : Nat} (hown : w.ownsMap Try.prog 9 (plainElem Try.prog 4) b n D) (h : Keys D l) (hp : ss.Perm (strKeys D)) : ss.mergeSort (fun x y => decide (x ≤ y)) = tagsL l := by
  obtain ⟨h1, h2, _⟩ := keys_list hown h
  exact merge_tags ss l (hp.nodup_iff.2 h1) fun z => by rw [hp.mem_iff]; exact h2 z

theorem tags_bad {l : List Bs} {k : Nat} (h : k < l.length) (hv : validTagL l[k] = false) : tagsE l = 2 ∧ tagsV l = [] := by
  have : l.all validTagL = false := by
    rw [Bool.eq_false_iff]; intro e; rw [List.all_eq_true] at e
    have := e _ (List.getElem_mem h); rw [hv] at this; cases this
  have e : tagsE l = 2 := by unfold tagsE; rw [this]; rfl
  exact ⟨e, by unfold tagsV; rw [e]; rfl⟩
theorem tags_long {l : List Bs} (hv : l.all validTagL = true) (h : 16 < (tagsL l).length) : tagsE l = 5 ∧ tagsV l = [] := by
  have e : tagsE l = 5 := by unfold tagsE; rw [if_pos hv, if_pos h]
  exact ⟨e, by unfold tagsV; rw [e]; rfl⟩
theorem tags_good {l : List Bs} (hv : l.all validTagL = true) (h : ¬ 16 < (tagsL l).length) : tagsE l = 0 ∧ tagsV l = tagsL l := by
  have e : tagsE l = 0 := by unfold tagsE; rw [if_pos hv, if_neg h]
  exact ⟨e, by unfold tagsV; rw [if_pos e]⟩
theorem all_next {l : List Bs} {k : Nat} (h : k < l.length) (hs : (l.take k).all validTagL = true) (hc : validTagL l[k] = true) : (l.take (k + 1)).all validTagL = true := by
  rw [List.take_succ_eq_append_getElem h, List.all_append, hs]; simpa using hc
theorem own_base {B B' : Nat} {w : World} {v : Value} {l : List Bs} (h : Own B w v l) (hB : B' ≤ B) : Own B' w v l := by
  rcases h with ⟨h1, h2⟩
  refine ⟨h1, ?_⟩
  rcases h2 with h2 | ⟨g, cap, cur, hv, hb, rest⟩
  · exact Or.inl h2
  · exact Or.inr ⟨g, cap, cur, hv, Nat.le_trans hB hb, rest⟩

set_option maxRecDepth 100000 in
set_option maxHeartbeats 1000000 in
theorem tags_any (A : Option Addr) (c : Nat) (l : List Bs) (w : World) (hA : Rd w A l) (hl : l.length ≤ 1000000) (hx : ∀ x ∈ l, x.length ≤ 1000000) :
    Calls Try.prog 39 #[.slice A l.length c] w (strsPost w (tagsV l) (tagsE l)) := by
  have HX := Lib.hid hx; clear hx
  have hmm := @run_makeMap Try.prog
  go_enter Try.func39, Try.ntmps39
  go_wp2_with fail
  clear hmm
  go_loopw [6, 12] (fun _ i wr => ∃ (k : Nat) (D : Dt), k ≤ l.length ∧ i = .int .i64 k ∧ wr.ownsMap Try.prog 9 (plainElem Try.prog 4) w.heap.size k D ∧ Keys D (l.take k) ∧ (l.take k).all validTagL = true ∧ Below w.heap.size w wr) (fun _ i _ => l.length - (intOf i).toNat)
  case atStart => exact ⟨0, _, Nat.zero_le _, rfl, World.ownsMap_made _ _ _ _, fun x => by simp [Maps.has_eq], rfl, (Below.refl _ _).alloc (Nat.le_refl _) _⟩
  case round =>
    obtain ⟨k, D, hk, rfl, hown, hkeys, hall, hbel⟩ := hrel
    have HA := Lib.hid hall; clear hall
    have HK := Lib.hid hkeys; clear hkeys
    have hsz := hbel.size
    have hRd := hA.below hbel (Nat.le_refl _)
    have HB := Lib.hid hbel; clear hbel
    have HM := Lib.hid hown; clear hown
    by_cases hlt : k < l.length
    · obtain ⟨b1, o1, rfl, hb1, hc1⟩ := hRd.at_ hlt
      have i1 : (k : Int) < l.length := by omega
      have hxl := HX.out _ (List.getElem_mem hlt)
      obtain ⟨x, hxx⟩ : ∃ x, x = l[k] := ⟨_, rfl⟩
      rw [← hxx] at hc1 hxl
      have HXX := Lib.hid hxx; clear hxx
      have HV := Lib.hid (fun W => validTag_any ⟨x.toArray⟩ W (by unfold maxLen; show x.toArray.size ≤ _; simp; omega))
      have hvs : validTagS ⟨x.toArray⟩ = validTagL x := rfl
      by_cases hv : validTagL x = true
      · have HVV := Lib.hid (hvs.trans hv)
        have HF := Lib.hid (all_next hlt HA.out (by rw [← HXX.out]; exact hv))
        have hkey : keyOf Try.prog 9 (.string ⟨x.toArray⟩) = some (.string x) := keyOf_string_mk Try.underlying9 (by unfold maxLen; show x.toArray.size ≤ _; simp; omega)
        have HKY := Lib.hid hkey
        have HP := Lib.hid (plainElem_bool (H := Unit) Try.underlying4 true)
        clear hv hvs hkey
        go_wp2_with fail
        refine (HV.out _).mono ?_
        rintro e w2 ⟨rfl, rfl⟩
        rw [HVV.out]
        go_wp2_with (at_mapUpdate; refine wpList_mapUpdate_own _ rfl _ _ _ 66 rfl 9 4 keyS Try.underlying66 _ w.heap.size k _ rfl HM.out (by unfold maxLen; omega) _ _ _ rfl rfl HKY.out _ [] HP.out ?_)
        intro w3 hown3 hg3
        have HK2 : Hid (Keys (D.put (.string x) (.lit (.bool true))) (l.take (k + 1))) := by
          show Keys _ _
          rw [List.take_succ_eq_append_getElem hlt, ← HXX.out]
          exact HK.out.put HM.out.isMap
        have HM3 := Lib.hid hown3
        have HB3 := Lib.hid (HB.out.grown hg3 hsz (fun j hj => by cases hj; exact Nat.le_refl _))
        clear hown3 hg3 hsz hRd hc1
        go_wp2_with fail
        go_roundw
        case rel => exact ⟨k + 1, _, by omega, by go_num, HM3.out, HK2.out, HF.out, HB3.out⟩
        case measure => simp [intOf]; omega
      · have hv' : validTagL x = false := by simpa using hv
        have HVV := Lib.hid (hvs.trans hv')
        have HR := Lib.hid (tags_bad hlt (by rw [← HXX.out]; exact hv'))
        clear hv hv' hvs
        go_wp2_with fail
        refine (HV.out _).mono ?_
        rintro e w2 ⟨rfl, rfl⟩
        rw [HVV.out]
        go_wp2_with fail
        go_ret2
        exact ⟨_, ret_vi rfl HR.out.1.symm, by rw [HR.out.2]; exact own_nil _ _, HB.out⟩
    · obtain rfl : k = l.length := by omega
      have hnn : ¬ (l.length : Int) < l.length := by omega
      have e1 := HA.out
      have e2 := HK.out
      rw [List.take_length] at e1 e2
      have hst := size_tags HM.out e2
      have htl := tags_len_le l
      have E1 := Lib.hid e1
      have E2 := Lib.hid e2
      have HST := Lib.hid hst
      by_cases h16 : 16 < (tagsL l).length
      · have HR := Lib.hid (tags_long e1 h16)
        clear e1 e2 hst hlt
        have hd : (16 : Int) < Maps.size D := by rw [HST.out]; omega
        go_wp2_with (at_len; refine wpList_len_own _ rfl _ 66 rfl 9 4 Try.underlying66 _ w.heap.size l.length _ rfl HM.out ?_)
        go_wp2_with fail
        go_ret2
        exact ⟨_, ret_vi rfl HR.out.1.symm, by rw [HR.out.2]; exact own_nil _ _, HB.out⟩
      · have HR := Lib.hid (tags_good e1 h16)
        clear e1 e2 hst hlt
        obtain ⟨wo, rfl⟩ : ∃ wo : World, wo = wr := ⟨_, rfl⟩
        have hd : ¬ (16 : Int) < Maps.size D := by rw [HST.out]; omega
        have hsd : Maps.size D ≤ 16 := by rw [HST.out]; omega
        go_wp2_with (first
          | (at_len; refine wpList_len_own _ rfl _ 66 rfl 9 4 Try.underlying66 _ w.heap.size l.length _ rfl HM.out ?_)
          | (at_range; refine wpList_range_own _ rfl _ 66 rfl 9 4 keyS Try.underlying66 _ w.heap.size l.length _ rfl HM.out ?_; intro w0 hrg0 hg0 hs0))
        have hw0 := hg0.size
        have hbl := HM.out.lt
        have HB0 := Lib.hid (HB.out.grown hg0 hsz (fun j hj => by cases hj))
        have HRG0 := Lib.hid hrg0
        clear hrg0 hg0 hs0
        go_loopw [7, 8] (fun v _ w4 => ∃ (left : Lit → Bool) (cnt : Nat) (ss : List Bs), w4.ranges Try.prog 9 (plainElem Try.prog 4) w.heap.size wo.heap.size l.length D left cnt ∧ ss.length + cnt ≤ 16 ∧
            Own wo.heap.size w4 v ss ∧ Collected D left ss ∧ Below w.heap.size w w4 ∧ wo.heap.size ≤ w4.heap.size)
          (fun _ _ w4 => w4.rangeLeft w.heap.size wo.heap.size)
        case atStart => exact ⟨_, _, [], HRG0.out, by simpa using hsd, own_nil _ _, Collected.start D, HB0.out, hw0⟩
        case round =>
          obtain ⟨left, cnt, ss, hrg, hcs, hrow, hC, hb4, hz4⟩ := hrel
          have HRG := Lib.hid hrg; clear hrg
          have HRW := Lib.hid hrow; clear hrow
          have HC := Lib.hid hC; clear hC
          have HB4 := Lib.hid hb4; clear hb4
          go_wp2_with (at_next; refine wpList_next_ranges _ rfl _ rfl 9 keyS (plainElem Try.prog 4) encStr (fun v : Value => v) (fun key kl hk => by obtain ⟨x, hx, _⟩ := Maps.keyOf_str Try.underlying9 hk; exact ⟨x, hx⟩) (fun v y _ => ⟨v, rfl⟩) w.heap.size wo.heap.size l.length _ _ _ rfl HRG.out ?_ ?_)
          · intro hc0 hl0
            have hpt := Lib.hid (perm_tags HRG.out.owns E2.out (HC.out.perm HRG.out.owns keyS Try.underlying9 hl0))
            clear hc0 hl0
            rcases (own_row HRW.out).2 with ⟨hnil, h0⟩ | ⟨g, cap, cur, rfl, hbase, hb, h1, h2, h3, h4⟩
            · subst hnil
              obtain rfl : ss = [] := List.eq_nil_of_length_eq_zero h0
              clear h0
              go_wp2_with fail
              refine (Try.slices_Sort_string_none none 0 wr).mono ?_
              rintro e w6 ⟨rfl, rfl⟩
              go_wp2_with fail
              go_ret2
              refine ⟨_, ret_vi rfl HR.out.1.symm, ?_, HB4.out⟩
              have hms : ([] : List Bs).mergeSort (fun x y => decide (x ≤ y)) = [] := by simp
              rw [HR.out.2, ← hpt.out, hms]
              exact own_nil _ _
            · have hH : Holds encStr wr g 0 ss.toArray := holds_of_block hb (by rw [Nat.mul_one] at h4; exact h4)
              have hgl : g < wr.heap.size := (Array.getElem?_eq_some_iff.1 hb).1
              have hS := Lib.hid (Try.slices_Sort_string g 0 cap ss wr hH hgl (by omega))
              have hF : Hid (∀ n os, Own w.heap.size (grow (putRow encStr (Sort.ahead wr n) g 0 (ss.mergeSort fun x y => decide (x ≤ y)).toArray) os) (.slice (some ⟨g, 0, none⟩) ss.length cap) (tagsV l)) := by
                show ∀ _ _, _
                intro n os
                have := ownsRow_sorted (w := wr) (n := n) (os := os) (ss := ss) (ts := ss.mergeSort fun x y => decide (x ≤ y)) (by rw [List.length_mergeSort]) hbase hb h1 h2 h3
                rw [HR.out.2]
                refine own_base (B := wo.heap.size) ?_ (by omega)
                unfold Own
                rw [← hpt.out, List.length_mergeSort]
                exact this
              have hBF : Hid (∀ n os, Below w.heap.size w (grow (putRow encStr (Sort.ahead wr n) g 0 (ss.mergeSort fun x y => decide (x ≤ y)).toArray) os)) := by
                show ∀ _ _, _
                intro n os
                exact HB4.out.grown (grownBy_sorted _) (by omega) (fun j hj => by cases hj; omega)
              clear hH hb h1 h2 h3 h4 hgl
              go_wp2_with fail
              refine hS.out.mono ?_
              rintro e w6 ⟨rfl, n, os, rfl⟩
              go_wp2_with fail
              go_ret2
              exact ⟨_, ret_vi rfl HR.out.1.symm, hF.out n os, hBF.out n os⟩
          · intro x c kl yd yp w5 cnt2 hkey hlk hv hat hrg2 hlt hg2 hs2 hen
            obtain ⟨x', ex, rfl, hxm⟩ := Maps.keyOf_str Try.underlying9 hkey
            obtain rfl : x = x' := encStr_inj ex
            have hne : some wo.heap.size ≠ u7.ownBlock := row_ne_iter (own_row HRW.out) HRG.out
            have hrow2 := Lib.hid ((own_row HRW.out).kept hg2 (Or.inr hne.symm))
            have hB5 := Lib.hid (HB4.out.grown hg2 (by omega) (fun j hj => by cases hj; omega))
            have hC2 := Lib.hid (HC.out.step hlk hat)
            have hR2 := Lib.hid hrg2
            have hz5 : wo.heap.size ≤ w5.heap.size := by have := hg2.size; omega
            have hM := Lib.hid HRG.out.left_eq
            clear hs2 hkey hlk hv hat hrg2 ex hg2 hne
            go_wp2_with (refine wpList_app rfl _ _ elS rfl rfl hrow2.out #[encStr x] rfl (by simp [encStr]; rfl) (by omega) (by simp) hz5 ?_)
            intro v' w6 h1' h2'
            have hR3 := Lib.hid (hR2.out.kept h2' (row_ne_low hrow2.out (by omega)) (row_ne_iter hrow2.out hR2.out))
            have H1 : Hid (Own wo.heap.size w6 v' (ss ++ [x])) := by
              show Own _ _ _ _
              unfold Own
              rw [List.length_append, List.map_append]
              exact h1'
            have hB6 := Lib.hid (hB5.out.grown h2' (by omega) (fun j hj => by have := (hrow2.out.lt j hj).1; omega))
            have hz6 : wo.heap.size ≤ w6.heap.size := by have := h2'.size; omega
            have hM3 := Lib.hid hR3.out.left_eq
            clear h1' h2' hz5 hen
            go_wp2_with fail
            go_roundw
            case rel => exact ⟨_, cnt2, ss ++ [x], hR3.out, by simp; omega, H1.out, hC2.out, hB6.out, hz6⟩
            case measure => rw [hM3.out, hM.out]; exact hlt
end Go.Proofs.Ytocfinhbocjbgaa.Ku
