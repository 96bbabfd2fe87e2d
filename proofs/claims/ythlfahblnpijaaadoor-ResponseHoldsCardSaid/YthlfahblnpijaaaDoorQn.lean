/- Proves what a string's conversion to bytes leaves, and what package request's text and list return, and the specification's list. Conditions: bounded strings. -/
import Derived.Test.YthlfahblnpijaaaDoorQe
import Derived.Test.YthlfahblnpijaaaDoorVab
import Derived.Test.YthlfahblnpijaaaDoorSw
import Derived.Lib.ConvBytes
namespace Go.Proofs.YthlfahblnpijaaaDoor.Qn
open Go.RowKit Vm Ap Vw Va Vab Vr Vrb Gc Mi Mb Qm Qs Qe

/-- '[]byte(s)'. -/
theorem conv_of (l : Bs) (w : World) : ∃ A c w1, (convert 9 29 (.string ⟨l.toArray⟩)).run Tryd.prog w = .ok (.slice A l.length c) w1 ∧ Rb w1 A l ∧ (A = none → c = 0) ∧ Below w.heap.size w w1 := by
  have h := Lib.run_convert_string_bytes (P := Tryd.prog) w 9 29 5 ⟨l.toArray⟩ Tryd.underlying9 Tryd.underlying29 Tryd.underlying5
  have hsz : (⟨l.toArray⟩ : ByteArray).size = l.length := by show l.toArray.size = _; simp
  rw [hsz] at h
  refine ⟨_, _, _, h, fun _ => ⟨w.heap.size, 0, rfl, by rw [Lib.bytesWorld_size]; omega, fun j hj => ?_⟩, (fun e => by cases e), ?_⟩
  · rw [Nat.zero_add, Lib.bytesWorld_cell w 5 ⟨l.toArray⟩ j (by rw [hsz]; exact hj)]
    simp [List.getElem?_eq_getElem hj]
  · exact ⟨rfl, rfl, rfl, by rw [Lib.bytesWorld_size]; omega, fun k hk => Lib.bytesWorld_at_old w _ _ k hk⟩
theorem bytes_base {B : Nat} {w : World} {l : Bs} {e : Ending} {w' : World} (h : bytesPost w l e w') (hB : B ≤ w.heap.size) : ∃ v, e = .returned v ∧ Own B w' v l ∧ Below w.heap.size w w' := by
  obtain ⟨v, h1, h2, h3⟩ := h
  exact ⟨v, h1, own_base h2 hB, h3⟩

theorem encL_take {ls : List Bs} {k : Nat} (h : k < ls.length) : (ls.take (k + 1)).flatMap encS = (ls.take k).flatMap encS ++ encS ls[k] := by
  rw [List.take_succ_eq_append_getElem h, List.flatMap_append]; simp
theorem encS_len (l : Bs) (h : l.length ≤ 1000000) : (encS l).length ≤ 1000010 := by
  unfold encS; rw [List.length_append]; have := enc_le l.length (by unfold big; omega); omega
theorem flat_len : ∀ (ls : List Bs), (∀ s ∈ ls, s.length ≤ 1000000) → (ls.flatMap encS).length ≤ ls.length * 1000010
  | [], _ => by simp
  | s :: ls, h => by
    rw [List.flatMap_cons, List.length_append, List.length_cons]
    have := flat_len ls (fun x hx => h x (by simp [hx]))
    have := encS_len s (h s (by simp))
    omega
theorem take_len (ls : List Bs) (k : Nat) (h : ∀ s ∈ ls, s.length ≤ 1000000) (hk : ls.length ≤ 40) : ((ls.take k).flatMap encS).length ≤ 40000400 := by
  have h1 := flat_len (ls.take k) (fun s hs => h s (List.mem_of_mem_take hs))
  have h2 : (ls.take k).length ≤ 40 := by rw [List.length_take]; omega
  omega
theorem encL_len (ls : List Bs) (h : ∀ s ∈ ls, s.length ≤ 1000000) (hk : ls.length ≤ 40) : (encL ls).length ≤ 40000410 := by
  unfold encL
  rw [List.length_append]
  have h1 := flat_len ls h
  have := enc_le ls.length (by unfold big; omega)
  omega

end Go.Proofs.YthlfahblnpijaaaDoor.Qn
