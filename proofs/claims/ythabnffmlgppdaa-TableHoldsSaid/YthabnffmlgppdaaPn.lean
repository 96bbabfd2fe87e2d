/- Proves what the methods of a nil or zero table return, and the law's small checks is, gets and dels at given answers. Conditions: as each theorem names them. -/
import Derived.Test.YthabnffmlgppdaaPh
namespace Go.Proofs.Ythabnffmlgppdaa.Pn
open Go.RowKit Ap Mi Nw Rg Hm Tm Tn Ta Tb Pm Pa Pb Pc Pd Pe Pf Ph

/-- A nil or zero table. -/
def Idle (w : World) (v : Value) : Prop := v = .pointer none ∨ ∃ b, v = .pointer (some ⟨b, 0, none⟩) ∧ Blk w b #[.int .u64 0, .slice none 0 0, .int .i64 0] 51
theorem Idle.below {w w' : World} {v : Value} (h : Idle w v) (hb : Below w.heap.size w w') : Idle w' v := by
  rcases h with h | ⟨b, h1, h2⟩
  · exact Or.inl h
  · exact Or.inr ⟨b, h1, h2.below hb h2.lt⟩
section
variable {w : World} {v : Value}
set_option maxRecDepth 100000 in
set_option maxHeartbeats 400000 in
theorem usable_idle (h : Idle w v) : Calls Try.prog 44 #[v] w fun e w' => e = .returned (.bool false) ∧ w = w' := by
  rcases h with rfl | ⟨b, rfl, hB⟩
  · go_enter Try.func44, Try.ntmps44
    go_wp2_with fail
    go_ret
    exact ⟨rfl, rfl⟩
  · obtain ⟨c0, c1, c2, _⟩ := hB.three
    clear hB
    go_enter Try.func44, Try.ntmps44
    go_wp2_with fail
    go_ret
    exact ⟨rfl, rfl⟩
set_option maxRecDepth 100000 in
set_option maxHeartbeats 400000 in
theorem look_idle (h : Idle w v) (k : Key) (n : Int) : Calls Try.prog 36 #[v, .string ⟨k.toArray⟩, .int .i64 n] w fun e w' => e = .returned (.tuple #[.int .i64 0, .bool false, .int .i64 1]) ∧ w = w' := by
  have HU := Lib.hid (usable_idle h)
  clear h
  go_enter Try.func36, Try.ntmps36
  go_wp2_with fail
  refine HU.out.mono ?_
  rintro e w1 ⟨rfl, rfl⟩
  go_wp2_with fail
  exact bodyPost_ret (v := .tuple #[.int .i64 0, .bool false, .int .i64 1]) (by simp [results, Try.results36, go_sem]) rfl ⟨rfl, rfl⟩
set_option maxRecDepth 100000 in
set_option maxHeartbeats 400000 in
theorem at_idle (h : Idle w v) (k : Key) (n : Int) : Calls Try.prog 42 #[v, .string ⟨k.toArray⟩, .int .i64 n] w fun e w' => e = .returned (.tuple #[.int .i64 0, .int .i64 1]) ∧ w = w' := by
  have HU := Lib.hid (look_idle h k n)
  clear h
  go_enter Try.func42, Try.ntmps42
  go_wp2_with fail
  refine HU.out.mono ?_
  rintro e w1 ⟨rfl, rfl⟩
  go_wp2_with fail
  go_ret2
  exact ⟨rfl, rfl⟩
set_option maxRecDepth 100000 in
set_option maxHeartbeats 400000 in
theorem get_idle (h : Idle w v) (k : Key) : Calls Try.prog 43 #[v, .string ⟨k.toArray⟩] w fun e w' => e = .returned (.tuple #[.int .i64 0, .int .i64 1]) ∧ w = w' := by
  have HU := Lib.hid (at_idle h k 0)
  clear h
  go_enter Try.func43, Try.ntmps43
  go_wp2_with fail
  refine HU.out.mono ?_
  rintro e w1 ⟨rfl, rfl⟩
  go_wp2_with fail
  go_ret2
  exact ⟨rfl, rfl⟩
set_option maxRecDepth 100000 in
set_option maxHeartbeats 400000 in
theorem set_idle (h : Idle w v) (k : Key) (n : Int) : Calls Try.prog 20 #[v, .string ⟨k.toArray⟩, .int .i64 n] w fun e w' => e = .returned (.tuple #[.int .i64 0, .int .i64 1]) ∧ w = w' := by
  have HU := Lib.hid (at_idle h k n)
  clear h
  go_enter Try.func20, Try.ntmps20
  go_wp2_with fail
  refine HU.out.mono ?_
  rintro e w1 ⟨rfl, rfl⟩
  go_wp2_with fail
  go_ret2
  exact ⟨rfl, rfl⟩
set_option maxRecDepth 100000 in
set_option maxHeartbeats 400000 in
theorem del_idle (h : Idle w v) (k : Key) : Calls Try.prog 26 #[v, .string ⟨k.toArray⟩] w fun e w' => e = .returned (.tuple #[.int .i64 0, .int .i64 1]) ∧ w = w' := by
  have HU := Lib.hid (at_idle h k 0)
  clear h
  go_enter Try.func26, Try.ntmps26
  go_wp2_with fail
  refine HU.out.mono ?_
  rintro e w1 ⟨rfl, rfl⟩
  go_wp2_with fail
  go_ret2
  exact ⟨rfl, rfl⟩
set_option maxRecDepth 100000 in
set_option maxHeartbeats 400000 in
theorem put_idle (h : Idle w v) (k : Key) (n : Int) : Calls Try.prog 15 #[v, .string ⟨k.toArray⟩, .int .i64 n] w fun e w' => e = .returned (.int .i64 1) ∧ w = w' := by
  have HU := Lib.hid (look_idle h k n)
  clear h
  go_enter Try.func15, Try.ntmps15
  go_wp2_with fail
  refine HU.out.mono ?_
  rintro e w1 ⟨rfl, rfl⟩
  go_wp2_with fail
  go_ret
  exact ⟨rfl, rfl⟩
set_option maxRecDepth 100000 in
set_option maxHeartbeats 400000 in
theorem copy_idle (h : Idle w v) : Calls Try.prog 24 #[v] w fun e w' => e = .returned (.pointer none) ∧ w = w' := by
  have HU := Lib.hid (usable_idle h)
  clear h
  go_enter Try.func24, Try.ntmps24
  go_wp2_with fail
  refine HU.out.mono ?_
  rintro e w1 ⟨rfl, rfl⟩
  go_wp2_with fail
  go_ret
  exact ⟨rfl, rfl⟩
set_option maxRecDepth 100000 in
set_option maxHeartbeats 400000 in
theorem len_idle (h : Idle w v) : Calls Try.prog 17 #[v] w fun e w' => e = .returned (.int .i64 0) ∧ w = w' := by
  rcases h with rfl | ⟨b, rfl, hB⟩
  · go_enter Try.func17, Try.ntmps17
    go_wp2_with fail
    go_ret
    exact ⟨rfl, rfl⟩
  · obtain ⟨c0, c1, c2, _⟩ := hB.three
    clear hB
    go_enter Try.func17, Try.ntmps17
    go_wp2_with fail
    go_ret
    exact ⟨rfl, rfl⟩
set_option maxRecDepth 100000 in
set_option maxHeartbeats 400000 in
theorem size_idle (h : Idle w v) : Calls Try.prog 16 #[v] w fun e w' => e = .returned (.int .i64 0) ∧ w = w' := by
  rcases h with rfl | ⟨b, rfl, hB⟩
  · go_enter Try.func16, Try.ntmps16
    go_wp2_with fail
    go_ret
    exact ⟨rfl, rfl⟩
  · obtain ⟨c0, c1, c2, _⟩ := hB.three
    clear hB
    go_enter Try.func16, Try.ntmps16
    go_wp2_with fail
    go_ret
    exact ⟨rfl, rfl⟩
theorem cells_idle (h : Idle w v) : Calls Try.prog 21 #[v] w (cellsPost w []) :=
  cells_gen (c := []) v (by simp) (fun W hW => size_idle (h.below hW)) (fun W _ i o hi => by simp at hi)
set_option maxRecDepth 100000 in
set_option maxHeartbeats 400000 in
theorem is_any (n e x y : Int) : Calls Try.prog 23 #[.int .i64 n, .int .i64 e, .int .i64 x, .int .i64 y] w fun r w' => r = .returned (.bool (n == x && e == y)) ∧ w = w' := by
  cases h : (n == x) with
  | true =>
    go_enter Try.func23, Try.ntmps23
    go_wp2_with fail
    go_ret
    exact ⟨by simp, rfl⟩
  | false =>
    go_enter Try.func23, Try.ntmps23
    go_wp2_with fail
    go_ret
    exact ⟨by simp, rfl⟩
theorem is_true (n e : Int) : Calls Try.prog 23 #[.int .i64 n, .int .i64 e, .int .i64 n, .int .i64 e] w fun r w' => r = .returned (.bool true) ∧ w = w' := by
  have := is_any (w := w) n e n e
  simpa using this
set_option maxRecDepth 100000 in
set_option maxHeartbeats 400000 in
theorem gets_true (k : Key) (n e : Int) {R : World → Prop} (HG : Calls Try.prog 43 #[v, .string ⟨k.toArray⟩] w fun q w' => q = .returned (.tuple #[.int .i64 n, .int .i64 e]) ∧ R w') :
    Calls Try.prog 22 #[v, .string ⟨k.toArray⟩, .int .i64 n, .int .i64 e] w fun r w' => r = .returned (.bool true) ∧ R w' := by
  have HX := Lib.hid HG
  clear HG
  go_enter Try.func22, Try.ntmps22
  go_wp2_with fail
  refine HX.out.mono ?_
  rintro q w1 ⟨rfl, hr⟩
  have HR := Lib.hid hr
  clear hr
  go_wp2_with fail
  refine (is_true n e).mono ?_
  rintro q w2 ⟨rfl, rfl⟩
  go_wp2_with fail
  go_ret
  exact ⟨rfl, HR.out⟩
set_option maxRecDepth 100000 in
set_option maxHeartbeats 400000 in
theorem dels_true (k : Key) (n e : Int) {R : World → Prop} (HG : Calls Try.prog 26 #[v, .string ⟨k.toArray⟩] w fun q w' => q = .returned (.tuple #[.int .i64 n, .int .i64 e]) ∧ R w') :
    Calls Try.prog 19 #[v, .string ⟨k.toArray⟩, .int .i64 n, .int .i64 e] w fun r w' => r = .returned (.bool true) ∧ R w' := by
  have HX := Lib.hid HG
  clear HG
  go_enter Try.func19, Try.ntmps19
  go_wp2_with fail
  refine HX.out.mono ?_
  rintro q w1 ⟨rfl, hr⟩
  have HR := Lib.hid hr
  clear hr
  go_wp2_with fail
  refine (is_true n e).mono ?_
  rintro q w2 ⟨rfl, rfl⟩
  go_wp2_with fail
  go_ret
  exact ⟨rfl, HR.out⟩
end
end Go.Proofs.Ythabnffmlgppdaa.Pn
