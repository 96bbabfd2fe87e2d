/- Proves that the specification's text of a number is its decimal numeral, by recursion on the number; and both texts of a time. Condition: what the library lays is laid. -/
import Derived.Test.YthphclmdbinafaaDoorCu
namespace Go.Proofs.YthphclmdbinafaaDoor.Cd
open Go.RowKit Go.Lib Cm Cf Cu

theorem slice10 : ∀ (n : Nat) (w : World), n < 10 → (Instr.sliceAt 9 (.string ⟨#[48, 49, 50, 51, 52, 53, 54, 55, 56, 57]⟩) (some (.int .u64 (n : Int))) (some (.int .u64 ((n : Int) + 1))) none).run Tryd.prog w = .ok (.string ⟨(Lib.decDigits n).toArray⟩) w
  | 0, w, _ | 1, w, _ | 2, w, _ | 3, w, _ | 4, w, _ | 5, w, _ | 6, w, _ | 7, w, _ | 8, w, _ | 9, w, _ => by kernel_rfl
  | n + 10, _, h => by omega
theorem digits_step (n : Nat) (h : ¬ n < 10) : (⟨(Lib.decDigits (n / 10)).toArray⟩ : ByteArray) ++ ⟨(Lib.decDigits (n % 10)).toArray⟩ = ⟨(Lib.decDigits n).toArray⟩ := by
  have h1 : Lib.decDigits n = Lib.decDigits (n / 10) ++ Lib.decDigits (n % 10) := by
    rw [Lib.decDigits_one (show n % 10 < 10 by omega), Lib.decDigits.eq_1 n, dif_neg h]
  apply ByteArray.ext
  rw [h1]; simp [ByteArray.data_append]
set_option maxRecDepth 100000 in
set_option maxHeartbeats 1000000 in
theorem digits_any (n : Nat) : ∀ (w : World), n < 18446744073709551616 →
    Calls Tryd.prog 26 #[.int .u64 n] w fun e w' => e = .returned (.string ⟨(Lib.decDigits n).toArray⟩) ∧ w = w' := by
  induction n using Nat.strongRecOn with
  | _ n ih =>
    intro w hu
    by_cases h : n < 10
    · have hb : decide ((n : Int) < 10) = true := by simp; omega
      have hs := fun W => slice10 n W h
      go_enter Tryd.func26, Tryd.ntmps26
      go_wp2
      go_ret
      exact ⟨rfl, rfl⟩
    · have hb : decide ((n : Int) < 10) = false := by simp; omega
      have e1 : (n : Int) / 10 = ((n / 10 : Nat) : Int) := by omega
      have e2 : (n : Int) % 10 = ((n % 10 : Nat) : Int) := by omega
      have H1 := Lib.hid (fun W => ih (n / 10) (by omega) W (by omega))
      have H2 := Lib.hid (fun W => ih (n % 10) (by omega) W (by omega))
      have HS := Lib.hid (digits_step n h)
      have l1 := Lib.nDigits_le20 (n / 10) (by omega)
      have l2 := Lib.nDigits_le20 (n % 10) (by omega)
      have z1 : (⟨(Lib.decDigits (n / 10)).toArray⟩ : ByteArray).size ≤ 20 := by
        show (Lib.decDigits (n / 10)).toArray.size ≤ 20; rw [List.size_toArray, Lib.decDigits_length]; exact l1
      have z2 : (⟨(Lib.decDigits (n % 10)).toArray⟩ : ByteArray).size ≤ 20 := by
        show (Lib.decDigits (n % 10)).toArray.size ≤ 20; rw [List.size_toArray, Lib.decDigits_length]; exact l2
      generalize (⟨(Lib.decDigits (n / 10)).toArray⟩ : ByteArray) = x at H1 HS z1
      generalize (⟨(Lib.decDigits (n % 10)).toArray⟩ : ByteArray) = y at H2 HS z2
      clear ih l1 l2
      have E1 := Lib.hid e1; have E2 := Lib.hid e2; clear e1 e2
      go_enter Tryd.func26, Tryd.ntmps26
      go_wp2_with fail
      rw [E1.out]
      refine (H1.out _).mono ?_
      rintro e w' ⟨rfl, rfl⟩
      go_wp2_with fail
      rw [E2.out]
      refine (H2.out _).mono ?_
      rintro e w' ⟨rfl, rfl⟩
      go_wp2_with fail
      go_ret
      exact ⟨by rw [← HS.out]; rfl, rfl⟩

def neverB : ByteArray := ⟨#[110, 101, 118, 101, 114]⟩
def textB (t : Nat) : ByteArray := if t = 18446744073709551615 then neverB else ⟨(Lib.decDigits t).toArray⟩
theorem text_never : textB 18446744073709551615 = neverB := if_pos rfl
theorem text_num {t : Nat} (h : ¬ t = 18446744073709551615) : textB t = ⟨(Lib.decDigits t).toArray⟩ := if_neg h
set_option maxRecDepth 100000 in
theorem rtext_any (t : Nat) (ht : t < 18446744073709551616) (w : World) :
    Calls Tryd.prog 21 #[.int .u64 t] w fun e w' => e = .returned (.string (textB t)) ∧ w = w' := by
  by_cases h : t = 18446744073709551615
  · subst h
    rw [text_never]
    go_enter Tryd.func21, Tryd.ntmps21
    go_wp2
    go_ret
    exact ⟨rfl, rfl⟩
  · rw [text_num h]
    have hb : ((t : Int) == 18446744073709551615) = false := by rw [beq_eq_false_iff_ne]; omega
    clear h
    go_enter Tryd.func21, Tryd.ntmps21
    go_wp2_with fail
    refine (digits_any t _ ht).mono ?_
    rintro e w' ⟨rfl, rfl⟩
    go_wp2_with fail
    go_ret
    exact ⟨rfl, rfl⟩
set_option maxRecDepth 100000 in
theorem text_any (t : Nat) (ht : t < 18446744073709551616) (w : World) (he : Env w) :
    Calls Tryd.prog 20 #[.int .u64 t] w (valAfter w (.string (textB t))) := by
  by_cases h : t = 18446744073709551615
  · subst h
    rw [text_never]
    go_enter Tryd.func20, Tryd.ntmps20
    go_wp2
    go_ret
    exact ⟨rfl, After.refl _⟩
  · rw [text_num h]
    have hb : ((t : Int) == 18446744073709551615) = false := by rw [beq_eq_false_iff_ne]; omega
    clear h
    go_enter Tryd.func20, Tryd.ntmps20
    go_wp2_with fail
    refine (format_any t ht _ he).mono ?_
    rintro e w' ⟨rfl, a1⟩
    go_wp2_with fail
    go_ret
    exact ⟨rfl, a1⟩
end Go.Proofs.YthphclmdbinafaaDoor.Cd
