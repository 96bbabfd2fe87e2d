/- Proves what the law's light returns: where it is true, the command's parts are few. Conditions: parts below the form's own bound. -/
import Derived.Test.YthlfahblnpijaaaDoorQe
import Derived.Deep.Cut
namespace Go.Proofs.YthlfahblnpijaaaDoor.Qt
open Go.RowKit Vm Ap Vw Va Gc Mi Mb Qm Qs Qe

/-- What an argument's parts are at most. -/
structure LimC (c : Cmd) : Prop where
  op1 : -9223372036854775808 ≤ c.op
  op2 : c.op ≤ 9223372036854775807
  key : c.key.length ≤ 140737488355328
  child : c.child.length ≤ 140737488355328
  tag : c.tag.length ≤ 140737488355328
  pre : c.pre.length ≤ 140737488355328
  value : c.value.length ≤ 140737488355328
  keys : c.keys.length ≤ 140737488355328
  tags : c.tags.length ≤ 140737488355328
  eachK : ∀ s ∈ c.keys, s.length ≤ 140737488355328
  eachT : ∀ s ∈ c.tags, s.length ≤ 140737488355328
  life : c.life < 18446744073709551616
  version : c.version < 18446744073709551616
/-- A command whose payload may be read. -/
structure Tiny (c : Cmd) : Prop where
  key : c.key.length ≤ 70000
  child : c.child.length ≤ 70000
  tag : c.tag.length ≤ 70000
  pre : c.pre.length ≤ 70000
  value : c.value.length ≤ 70000
  keys : c.keys.length ≤ 40
  tags : c.tags.length ≤ 40
  eachK : ∀ s ∈ c.keys, s.length ≤ 6000
  eachT : ∀ s ∈ c.tags, s.length ≤ 6000
  life : c.life < big
  version : c.version < big
/-- What a light command's parts are at most. -/
structure LightC (c : Cmd) : Prop where
  bnd : Bnd c
  keys : c.keys.length ≤ 40
  tags : c.tags.length ≤ 40
  tiny : Tiny c
theorem enS_len (l : Bs) (h : l.length ≤ 70000) : (encS l).length ≤ 70010 := by
  unfold encS; rw [List.length_append]; have := enc_le l.length (by unfold big; omega); omega
theorem fl_len : ∀ (ls : List Bs), (∀ s ∈ ls, s.length ≤ 6000) → (ls.flatMap encS).length ≤ ls.length * 6010
  | [], _ => by simp
  | s :: ls, h => by
    rw [List.flatMap_cons, List.length_append, List.length_cons]
    have h1 := fl_len ls (fun x hx => h x (by simp [hx]))
    have h2 : (encS s).length ≤ 6010 := by
      unfold encS; rw [List.length_append]; have := enc_le s.length (by have := h s (by simp); unfold big; omega); have := h s (by simp); omega
    omega
theorem enL_len (ls : List Bs) (h : ∀ s ∈ ls, s.length ≤ 6000) (hk : ls.length ≤ 40) : (encL ls).length ≤ 240410 := by
  unfold encL
  rw [List.length_append]
  have h1 := fl_len ls h
  have := enc_le ls.length (by unfold big; omega)
  omega
theorem part_len {c : Cmd} (h : Tiny c) (x : UInt8) : (bytesR c x).length ≤ 240410 := by
  have n1 := enc_le c.life h.life
  have n2 := enc_le c.version h.version
  have := enS_len _ h.key; have := enS_len _ h.child; have := enS_len _ h.tag; have := enS_len _ h.pre; have := enS_len _ h.value
  have := enL_len _ h.eachK h.keys; have := enL_len _ h.eachT h.tags
  unfold bytesR
  repeat' split
  all_goals omega
theorem pay_len {c : Cmd} (h : Tiny c) : (payR c).length ≤ 1300000 := by
  have hl : ∀ xs : Bs, (xs.flatMap (bytesR c)).length ≤ xs.length * 240410 := by
    intro xs
    induction xs with
    | nil => simp
    | cons x r ih =>
      rw [List.flatMap_cons, List.length_append, List.length_cons]
      have := part_len h x
      omega
  have h5 : (needs c.op).length ≤ 5 := by
    unfold needs
    split
    · rename_i hi
      obtain ⟨k, hk, _, e⟩ := in_cases hi
      rw [e]
      exact (show ∀ k : Fin 15, (needsN k).length ≤ 5 by decide +kernel) ⟨k, hk⟩
    · simp
  have := hl (needs c.op)
  unfold payR
  omega
def sumL (ls : List Bs) : Nat := (ls.map List.length).sum
theorem sum_take {ls : List Bs} {k : Nat} (h : k < ls.length) : sumL (ls.take (k + 1)) = sumL (ls.take k) + ls[k].length := by
  unfold sumL; rw [List.take_succ_eq_append_getElem h, List.map_append, List.sum_append]; simp
theorem sum_le (B : Nat) : ∀ (ls : List Bs), (∀ s ∈ ls, s.length ≤ B) → sumL ls ≤ ls.length * B
  | [], _ => by simp [sumL]
  | s :: r, h => by
    have := sum_le B r (fun x hx => h x (by simp [hx]))
    have h1 := h s (by simp)
    unfold sumL at this ⊢
    rw [List.map_cons, List.sum_cons, List.length_cons, Nat.add_mul]
    omega
theorem mem_sum : ∀ (ls : List Bs) (s : Bs), s ∈ ls → s.length ≤ sumL ls
  | x :: r, s, h => by
    unfold sumL
    rw [List.map_cons, List.sum_cons]
    rcases List.mem_cons.1 h with rfl | h
    · omega
    · have := mem_sum r s h; unfold sumL at this; omega
theorem take_bd (ls : List Bs) (k : Nat) (h : ∀ s ∈ ls, s.length ≤ 140737488355328) (hk : ls.length ≤ 40) : sumL (ls.take k) ≤ 5629499534213120 := by
  have h1 := sum_le 140737488355328 (ls.take k) (fun s hs => h s (List.mem_of_mem_take hs))
  have h2 : (ls.take k).length ≤ 40 := by rw [List.length_take]; omega
  have h3 : (ls.take k).length * 140737488355328 ≤ 40 * 140737488355328 := Nat.mul_le_mul_right _ h2
  omega
def lightPost (w : World) (c : Cmd) : Ending → World → Prop := fun e w' => ∃ b, e = .returned (.bool b) ∧ Below w.heap.size w w' ∧ (b = true → LightC c)

end Go.Proofs.YthlfahblnpijaaaDoor.Qt
