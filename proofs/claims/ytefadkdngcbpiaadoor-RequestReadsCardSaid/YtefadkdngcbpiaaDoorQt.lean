/- Proves what the law's light returns: where it is true, the command's parts are few. Conditions: parts below the form's own bound. -/
import Derived.Test.YtefadkdngcbpiaaDoorQe
import Derived.Deep.Cut
namespace Go.Proofs.YtefadkdngcbpiaaDoor.Qt
open Go.RowKit Vm Ap Vw Va Gc Mi Mb Qm Qs Qe

/-- What an argument's parts are at most. -/
structure LimC (c : Cmd) : Prop where
  op1 : -9223372036854775808 ≤ c.op
  op2 : c.op ≤ 9223372036854775807
  key : c.key.length ≤ 140737488355328
  child : c.child.length ≤ 140737488355328
  tag : c.tag.length ≤ 140737488355328
  pre : c.pre.length ≤ 140737488355328
  value : c.value.length ≤ 140737488355328
  keys : c.keys.length ≤ 140737488355328
  tags : c.tags.length ≤ 140737488355328
  eachK : ∀ s ∈ c.keys, s.length ≤ 140737488355328
  eachT : ∀ s ∈ c.tags, s.length ≤ 140737488355328
  life : c.life < 18446744073709551616
  version : c.version < 18446744073709551616
/-- A command whose payload may be read. -/
structure Tiny (c : Cmd) : Prop where
  key : c.key.length ≤ 70000
  child : c.child.length ≤ 70000
  tag : c.tag.length ≤ 70000
  pre : c.pre.length ≤ 70000
  value : c.value.length ≤ 70000
  keys : c.keys.length ≤ 40
  tags : c.tags.length ≤ 40
  eachK : ∀ s ∈ c.keys, s.length ≤ 6000
  eachT : ∀ s ∈ c.tags, s.length ≤ 6000
  life : c.life < big
  version : c.version < big
/-- What a light command's parts are at most. -/
structure LightC (c : Cmd) : Prop where
  bnd : Bnd c
  keys : c.keys.length ≤ 40
  tags : c.tags.length ≤ 40
  tiny : Tiny c
theorem enS_len (l : Bs) (h : l.length ≤ 70000) : (encS l).length ≤ 70010 := by
  unfold encS; rw [List.length_append]; have := enc_le l.length (by unfold big; omega); omega
theorem fl_len : ∀ (ls : List Bs), (∀ s ∈ ls, s.length ≤ 6000) → (ls.flatMap encS).length ≤ ls.length * 6010
  | [], _ => by simp
  | s :: ls, h => by
    rw [List.flatMap_cons, List.length_append, List.length_cons]
    have h1 := fl_len ls (fun x hx => h x (by simp [hx]))
    have h2 : (encS s).length ≤ 6010 := by
      unfold encS; rw [List.length_append]; have := enc_le s.length (by have := h s (by simp); unfold big; omega); have := h s (by simp); omega
    omega
theorem enL_len (ls : List Bs) (h : ∀ s ∈ ls, s.length ≤ 6000) (hk : ls.length ≤ 40) : (encL ls).length ≤ 240410 := by
  unfold encL
  rw [List.length_append]
  have h1 := fl_len ls h
  have := enc_le ls.length (by unfold big; omega)
  omega
theorem part_len {c : Cmd} (h : Tiny c) (x : UInt8) : (bytesR c x).length ≤ 240410 := by
  have n1 := enc_le c.life h.life
  have n2 := enc_le c.version h.version
  have := enS_len _ h.key; have := enS_len _ h.child; have := enS_len _ h.tag; have := enS_len _ h.pre; have := enS_len _ h.value
  have := enL_len _ h.eachK h.keys; have := enL_len _ h.eachT h.tags
  unfold bytesR
  repeat' split
  all_goals omega
theorem pay_len {c : Cmd} (h : Tiny c) : (payR c).length ≤ 1300000 := by
  have hl : ∀ xs : Bs, (xs.flatMap (bytesR c)).length ≤ xs.length * 240410 := by
    intro xs
    induction xs with
    | nil => simp
    | cons x r ih =>
      rw [List.flatMap_cons, List.length_append, List.length_cons]
      have := part_len h x
      omega
  have h5 : (needs c.op).length ≤ 5 := by
    unfold needs
    split
    · rename_i hi
      obtain ⟨k, hk, _, e⟩ := in_cases hi
      rw [e]
      exact (show ∀ k : Fin 15, (needsN k).length ≤ 5 by decide +kernel) ⟨k, hk⟩
    · simp
  have := hl (needs c.op)
  unfold payR
  omega
def sumL (ls : List Bs) : Nat := (ls.map List.length).sum
theorem sum_take {ls : List Bs} {k : Nat} (h : k < ls.length) : sumL (ls.take (k + 1)) = sumL (ls.take k) + ls[k].length := by
  unfold sumL; rw [List.take_succ_eq_append_getElem h, List.map_append, List.sum_append]; simp
theorem sum_le (B : Nat) : ∀ (ls : List Bs), (∀ s ∈ ls, s.length ≤ B) → sumL ls ≤ ls.length * B
  | [], _ => by simp [sumL]
  | s :: r, h => by
    have := sum_le B r (fun x hx => h x (by simp [hx]))
    have h1 := h s (by simp)
    unfold sumL at this ⊢
    rw [List.map_cons, List.sum_cons, List.length_cons, Nat.add_mul]
    omega
theorem mem_sum : ∀ (ls : List Bs) (s : Bs), s ∈ ls → s.length ≤ sumL ls
  | x :: r, s, h => by
    unfold sumL
    rw [List.map_cons, List.sum_cons]
    rcases List.mem_cons.1 h with rfl | h
    · omega
    · have := mem_sum r s h; unfold sumL at this; omega
theorem take_bd (ls : List Bs) (k : Nat) (h : ∀ s ∈ ls, s.length ≤ 140737488355328) (hk : ls.length ≤ 40) : sumL (ls.take k) ≤ 5629499534213120 := by
  have h1 := sum_le 140737488355328 (ls.take k) (fun s hs => h s (List.mem_of_mem_take hs))
  have h2 : (ls.take k).length ≤ 40 := by rw [List.length_take]; omega
  have h3 : (ls.take k).length * 140737488355328 ≤ 40 * 140737488355328 := Nat.mul_le_mul_right _ h2
  omega
def lightPost (w : World) (c : Cmd) : Ending → World → Prop := fun e w' => ∃ b, e = .returned (.bool b) ∧ Below w.heap.size w w' ∧ (b = true → LightC c)

set_option maxRecDepth 100000 in
set_option maxHeartbeats 2000000 in
theorem light_any (x : Com) (w : World) (hr : Rc w x) (hl : LimC x.c) :
    Calls Tryd.prog 9 #[comV x] w (lightPost w x.c) := by
  unfold comV
  obtain ⟨w0, hw0⟩ : ∃ w0, w0 = w.alloc (comO x) := ⟨_, rfl⟩
  have B0 : Below w.heap.size w w0 := by rw [hw0]; exact alloc_below _ _
  have HB := Lib.hid B0
  have bx : Box w0 w.heap.size x := by rw [hw0]; exact Box.new _ _
  have HR := Lib.hid (hr.below B0 (Nat.le_refl _))
  have HL := Lib.hid hl
  obtain ⟨c0, c1, c2, c3, c4, c5, c6, c7, c8, c9, _⟩ := bx
  unfold comO at hw0
  have z1 := hl.key; have z2 := hl.value; have z3 := hl.tag; have z4 := hl.pre; have z5 := hl.child; have z6 := hl.keys; have z7 := hl.tags
  have s1 : (⟨x.c.key.toArray⟩ : ByteArray).size = x.c.key.length := by show x.c.key.toArray.size = _; simp
  clear B0 hr hl
  go_enter Tryd.func9, Tryd.ntmps9
  go_upto_region 1 with fail
  rw [← hw0]
  clear hw0 s1
  go_upto_region 2 with fail
  obtain ⟨n0, hn0⟩ : ∃ n0 : Nat, n0 = x.c.key.length + x.c.value.length + x.c.tag.length + x.c.pre.length + x.c.child.length := ⟨_, rfl⟩
  have hni : (x.c.key.length : Int) + x.c.value.length + x.c.tag.length + x.c.pre.length + x.c.child.length = (n0 : Int) := by omega
  rw [hni]
  have HN := Lib.hid hn0
  clear hn0 hni
  by_cases g1 : 40 < x.c.tags.length
  · have d1 : (40 : Int) < x.c.tags.length := by omega
    go_wp2_with fail
    go_ret
    exact ⟨false, rfl, HB.out, fun e => by cases e⟩
  · have d1 : ¬ (40 : Int) < x.c.tags.length := by omega
    by_cases g2 : 40 < x.c.keys.length
    · have d2 : (40 : Int) < x.c.keys.length := by omega
      go_wp2_with fail
      go_ret
      exact ⟨false, rfl, HB.out, fun e => by cases e⟩
    · have d2 : ¬ (40 : Int) < x.c.keys.length := by omega
      by_cases g3 : 600 < n0
      · have d3 : (600 : Int) < n0 := by omega
        go_wp2_with fail
        go_ret
        exact ⟨false, rfl, HB.out, fun e => by cases e⟩
      · have d3 : ¬ (600 : Int) < n0 := by omega
        have hn600 : n0 ≤ 600 := by omega
        have T1 := Lib.hid (fun k => take_bd x.c.tags k HL.out.eachT (by omega))
        have T2 := Lib.hid (fun k => take_bd x.c.keys k HL.out.eachK (by omega))
        clear z1 z2 z3 z4 z5 z6 z7
        have g1' : x.c.tags.length ≤ 40 := by omega
        have g2' : x.c.keys.length ≤ 40 := by omega
        clear g1 g2 g3
        go_wp2_with fail
        go_loop [3, 5, 44] (fun u _ i => ∃ k : Nat, k ≤ x.c.tags.length ∧ i = .int .i64 (k : Int) ∧ u = .int .i64 ((n0 + sumL (x.c.tags.take k) : Nat) : Int)) (fun _ _ i => x.c.tags.length - (intOf i).toNat)
        case atStart => exact ⟨0, Nat.zero_le _, rfl, rfl⟩
        case round =>
          obtain ⟨k, hk, rfl, rfl⟩ := hrel
          by_cases hlt : k < x.c.tags.length
          · obtain ⟨b, o, hA, hb, hc⟩ := HR.out.rt.at_ hlt
            rw [hA] at c4
            rw [hA]
            have i1 : (k : Int) < x.c.tags.length := by omega
            have HS := Lib.hid (sum_take hlt)
            have t1 := T1.out k
            have t2 := T1.out (k + 1)
            rw [HS.out] at t2
            have HSn : Hid (((n0 + sumL (x.c.tags.take (k + 1)) : Nat) : Int) = ((n0 + sumL (x.c.tags.take k) : Nat) : Int) + (x.c.tags[k].length : Int)) := by show _ = _; rw [HS.out]; omega
            have t3 : n0 + sumL (x.c.tags.take k) + x.c.tags[k].length ≤ 5629499534213720 := by omega
            generalize n0 + sumL (x.c.tags.take k) = m at *
            obtain ⟨s, hs⟩ : ∃ s, s = x.c.tags[k] := ⟨_, rfl⟩
            rw [← hs] at hc t2 t3 HSn
            clear hs hA
            go_wp2_with fail
            go_round
            case rel => exact ⟨k + 1, by omega, by go_num, by rw [HSn.out]⟩
            case measure => simp [intOf]; omega
          · obtain rfl : k = x.c.tags.length := by omega
            have hnn : ¬ (x.c.tags.length : Int) < x.c.tags.length := by omega
            have t1 := T1.out x.c.tags.length
            have HS1 : Hid (x.c.tags.take x.c.tags.length = x.c.tags) := List.take_length
            rw [HS1.out] at t1
            rw [HS1.out]
            obtain ⟨n1, hn1⟩ : ∃ n1, n1 = n0 + sumL x.c.tags := ⟨_, rfl⟩
            have hn1b : n1 ≤ 5629499534213720 := by omega
            rw [← hn1]
            have HN1 := Lib.hid hn1
            clear hn1 t1 hlt
            go_wp2_with fail
            go_loop [3, 7, 56] (fun u _ i => ∃ k : Nat, k ≤ x.c.keys.length ∧ i = .int .i64 (k : Int) ∧ u = .int .i64 ((n1 + sumL (x.c.keys.take k) : Nat) : Int)) (fun _ _ i => x.c.keys.length - (intOf i).toNat)
            case atStart => exact ⟨0, Nat.zero_le _, rfl, rfl⟩
            case round =>
              obtain ⟨k, hk, rfl, rfl⟩ := hrel
              by_cases hlt : k < x.c.keys.length
              · obtain ⟨b, o, hA, hb, hc⟩ := HR.out.rk.at_ hlt
                rw [hA] at c2
                rw [hA]
                have i1 : (k : Int) < x.c.keys.length := by omega
                have HS := Lib.hid (sum_take hlt)
                have t1 := T2.out k
                have t2 := T2.out (k + 1)
                rw [HS.out] at t2
                have HSn : Hid (((n1 + sumL (x.c.keys.take (k + 1)) : Nat) : Int) = ((n1 + sumL (x.c.keys.take k) : Nat) : Int) + (x.c.keys[k].length : Int)) := by show _ = _; rw [HS.out]; omega
                have t3 : n1 + sumL (x.c.keys.take k) + x.c.keys[k].length ≤ 11258999068427520 := by omega
                generalize n1 + sumL (x.c.keys.take k) = m at *
                obtain ⟨s, hs⟩ : ∃ s, s = x.c.keys[k] := ⟨_, rfl⟩
                rw [← hs] at hc t2 t3 HSn
                clear hs hA
                go_wp2_with fail
                go_round
                case rel => exact ⟨k + 1, by omega, by go_num, by rw [HSn.out]⟩
                case measure => simp [intOf]; omega
              · obtain rfl : k = x.c.keys.length := by omega
                have hnn : ¬ (x.c.keys.length : Int) < x.c.keys.length := by omega
                have HS2 : Hid (x.c.keys.take x.c.keys.length = x.c.keys) := List.take_length
                rw [HS2.out]
                have HFIN : Hid (n1 + sumL x.c.keys ≤ 6000 → LightC x.c) := fun hle => by
                  have hN := HN.out
                  have hN1 := HN1.out
                  have hl := HL.out
                  exact ⟨⟨hl.op1, hl.op2, by omega, by omega, by omega, by omega, by omega, by omega, by omega, fun s hs => by have := mem_sum _ s hs; omega, fun s hs => by have := mem_sum _ s hs; omega, hl.life, hl.version⟩, g2', g1', ⟨by omega, by omega, by omega, by omega, by omega, g2', g1', fun s hs => by have := mem_sum _ s hs; omega, fun s hs => by have := mem_sum _ s hs; omega, hl.life, hl.version⟩⟩
                generalize n1 + sumL x.c.keys = m at *
                go_wp2_with fail
                go_ret
                exact ⟨_, rfl, HB.out, fun e => HFIN.out (by rw [decide_eq_true_eq] at e; omega)⟩
end Go.Proofs.YtefadkdngcbpiaaDoor.Qt
