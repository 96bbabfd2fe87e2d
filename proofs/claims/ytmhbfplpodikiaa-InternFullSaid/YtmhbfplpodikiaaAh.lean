/- Proves what the law's small checks return at the right answers. Conditions: as each theorem names them. -/
import Derived.Test.YtmhbfplpodikiaaAg
namespace Go.Proofs.Ytmhbfplpodikiaa.Ah
open Go.RowKit Ap Mi Nw Aa Ab Ac Ag

section
variable {F : Nat → Prop} {w : World} {g : Nat} {m : Int} {l : List Nr}
theorem adds_true (h : St F w g m l) (hf : Fine 2147483646 l) (k : ByteArray) (hk : k.size ≤ 1000000) {v e : Int} (hv : addV m l k = v) (he : addE m l k = e) : Calls Try.prog 14 #[.pointer (some ⟨g, 0, none⟩), .string k, .int .i64 v, .int .i64 e] w (fun q w' => q = .returned (.bool true) ∧ Gave F w w' g m (addL m l k)) := by
  have HC := Lib.hid (add_st h hf k hk)
  rw [hv, he] at HC
  have g1 : (v == v) = true := by simp
  have g2 : (e == e) = true := by simp
  clear h hv he
  go_enter Try.func14, Try.ntmps14
  go_wp2_with fail
  refine HC.out.mono ?_
  rintro q w1 ⟨rfl, hb⟩
  have HB := Lib.hid hb
  clear hb
  go_wp2_with fail
  go_ret
  exact ⟨rfl, HB.out⟩
theorem frees_true (h : St F w g m l) (n : Int) {v : Bool} {e : Int} (hv : relB l n = v) (he : relE l n = e) : Calls Try.prog 16 #[.pointer (some ⟨g, 0, none⟩), .int .i64 n, .bool v, .int .i64 e] w (fun q w' => q = .returned (.bool true) ∧ Gave F w w' g m (relL l n)) := by
  have HC := Lib.hid (rel_st h n)
  rw [hv, he] at HC
  have g1 : (v == v) = true := by simp
  have g2 : (e == e) = true := by simp
  clear h hv he
  go_enter Try.func16, Try.ntmps16
  go_wp2_with fail
  refine HC.out.mono ?_
  rintro q w1 ⟨rfl, hb⟩
  have HB := Lib.hid hb
  clear hb
  go_wp2_with fail
  go_ret
  exact ⟨rfl, HB.out⟩
theorem finds_true (h : St F w g m l) (k : ByteArray) (hk : k.size ≤ 1000000) {v e : Int} (hv : findV l k = v) (he : findE l k = e) : Calls Try.prog 22 #[.pointer (some ⟨g, 0, none⟩), .string k, .int .i64 v, .int .i64 e] w (boolTo true w) := by
  have HC := Lib.hid (find_st h k hk)
  unfold vPost at HC
  rw [hv, he] at HC
  have g1 : (v == v) = true := by simp
  have g2 : (e == e) = true := by simp
  clear h hv he
  go_enter Try.func22, Try.ntmps22
  go_wp2_with fail
  refine HC.out.mono ?_
  rintro q w1 ⟨rfl, hb⟩
  have HB := Lib.hid hb
  clear hb
  go_wp2_with fail
  go_ret
  exact ⟨rfl, HB.out⟩
theorem names_true (h : St F w g m l) (n : Int) {v : ByteArray} {e : Int} (hv : nameV l n = v) (he : nameE l n = e) : Calls Try.prog 23 #[.pointer (some ⟨g, 0, none⟩), .int .i64 n, .string v, .int .i64 e] w (boolTo true w) := by
  have HC := Lib.hid (name_st h n)
  unfold vPost at HC
  rw [hv, he] at HC
  have g1 := str_yes (rfl : v = v)
  have g2 : (e == e) = true := by simp
  clear h hv he
  go_enter Try.func23, Try.ntmps23
  go_wp2_with fail
  refine HC.out.mono ?_
  rintro q w1 ⟨rfl, hb⟩
  have HB := Lib.hid hb
  clear hb
  go_wp2_with fail
  go_ret
  exact ⟨rfl, HB.out⟩
theorem refs_true (h : St F w g m l) (n : Int) {v e : Int} (hv : refsV l n = v) (he : nameE l n = e) : Calls Try.prog 24 #[.pointer (some ⟨g, 0, none⟩), .int .i64 n, .int .i64 v, .int .i64 e] w (boolTo true w) := by
  have HC := Lib.hid (refs_st h n)
  unfold vPost at HC
  rw [hv, he] at HC
  have g1 : (v == v) = true := by simp
  have g2 : (e == e) = true := by simp
  clear h hv he
  go_enter Try.func24, Try.ntmps24
  go_wp2_with fail
  refine HC.out.mono ?_
  rintro q w1 ⟨rfl, hb⟩
  have HB := Lib.hid hb
  clear hb
  go_wp2_with fail
  go_ret
  exact ⟨rfl, HB.out⟩
theorem lens_true (h : St F w g m l) {n : Int} (hn : (cnt l : Int) = n) : Calls Try.prog 21 #[.pointer (some ⟨g, 0, none⟩), .int .i64 n, .int .i64 m] w (boolTo true w) := by
  have HC := Lib.hid (len_st h)
  unfold vPost at HC
  rw [hn] at HC
  have g1 : (n == n) = true := by simp
  have g2 : (m == m) = true := by simp
  clear h hn
  go_enter Try.func21, Try.ntmps21
  go_wp2_with fail
  refine HC.out.mono ?_
  rintro q w1 ⟨rfl, hb⟩
  have HB := Lib.hid hb
  clear hb
  go_wp2_with fail
  go_ret
  exact ⟨rfl, HB.out⟩
end
end Go.Proofs.Ytmhbfplpodikiaa.Ah
