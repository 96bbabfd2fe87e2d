/- Plain facts of package key: bytes that are written as themselves, digits, texts and their parsing, segments, folders, keys out of segments, tags in order. No program, no condition. -/
import Derived.Lib.Hide
import Derived.Lib.Strings
import Derived.Lib.SplitLaws
import Derived.Lib.Join
import Derived.Lib.IndexMore
namespace Go.Proofs.YtjieiakgikhofaaDoor.Km
open Go

abbrev Bs := List UInt8

/-! ### bytes -/
def plainI (a : Int) : Bool := decide (33 ≤ a ∧ a ≤ 126 ∧ a ≠ 37 ∧ a ≠ 34)
def digI (k : Int) : Int := if k < 10 then 48 + k else 87 + k
def valI (a : Int) : Int := if 48 ≤ a ∧ a ≤ 57 then a - 48 else if 97 ≤ a ∧ a ≤ 102 then a - 87 else -1
theorem valI_bd (a : Int) : -1 ≤ valI a ∧ valI a < 16 := by unfold valI; split <;> (try split) <;> omega
theorem val_dig (k : Int) (h0 : 0 ≤ k) (h1 : k < 16) : valI (digI k) = k := by
  unfold digI valI; split <;> (first | (rw [if_pos (by omega)]; omega) | (rw [if_neg (by omega), if_pos (by omega)]; omega))
theorem dig_val (a : Int) (h : 0 ≤ valI a) : digI (valI a) = a := by
  unfold valI at *
  split at h
  · rename_i g; rw [if_pos g]; unfold digI; rw [if_pos (by omega)]; omega
  · rename_i g
    split at h
    · rename_i g'; rw [if_neg g, if_pos g']; unfold digI; rw [if_neg (by omega)]; omega
    · omega
theorem dig_inj (j k : Int) (h0 : 0 ≤ j) (h1 : j < 16) (h2 : 0 ≤ k) (h3 : k < 16) (h : digI j = digI k) : j = k := by
  rw [← val_dig j h0 h1, ← val_dig k h2 h3, h]
theorem val_none (a : Int) (h : ∀ j : Nat, j < 16 → digI j ≠ a) : valI a = -1 := by
  rcases Int.lt_or_le (valI a) 0 with h' | h'
  · have := (valI_bd a).1; omega
  · exact absurd (by rw [show ((valI a).toNat : Int) = valI a from by omega]; exact dig_val a h') (h (valI a).toNat (by have := (valI_bd a).2; omega))
theorem digI_bd (k : Int) (h0 : 0 ≤ k) (h1 : k < 16) : 48 ≤ digI k ∧ digI k ≤ 102 := by unfold digI; split <;> omega

def plainC (c : UInt8) : Bool := plainI c.toNat
def digU (k : Nat) : UInt8 := UInt8.ofNat (digI k).toNat
theorem digU_nat (k : Nat) (h : k < 16) : ((digU k).toNat : Int) = digI k := by
  have := digI_bd k (by omega) (by omega)
  unfold digU
  rw [UInt8.toNat_ofNat']
  omega

/-! ### texts -/
def encC (c : UInt8) : Bs := if plainC c then [c] else [37, digU (c.toNat / 16), digU (c.toNat % 16)]
def textL (s : Bs) : Bs := if s = [] then [34, 34] else s.flatMap encC

/-- what two digits stand for, if it is a byte that is not written as itself -/
def two (h l : UInt8) : Option UInt8 :=
  if valI h.toNat < 0 ∨ valI l.toNat < 0 then none
  else if plainI (valI h.toNat * 16 + valI l.toNat) then none else some (UInt8.ofNat (valI h.toNat * 16 + valI l.toNat).toNat)
/-- what stands behind the escape sign -/
def tail2 : Bs → Option (UInt8 × Bs)
  | h :: l :: t => (two h l).map fun x => (x, t)
  | _ => none
/-- the byte that a text begins with, and what follows -/
def takeL : Bs → Option (UInt8 × Bs)
  | [] => none
  | c :: r => if plainC c then some (c, r) else if c = 37 then tail2 r else none
theorem take_plain {c : UInt8} (r : Bs) (h : plainC c = true) : takeL (c :: r) = some (c, r) := by rw [takeL, if_pos h]
theorem take_esc {c : UInt8} (r : Bs) (h : ¬ plainC c = true) (h' : c = 37) : takeL (c :: r) = tail2 r := by rw [takeL, if_neg h, if_pos h']
theorem take_no {c : UInt8} (r : Bs) (h : ¬ plainC c = true) (h' : ¬ c = 37) : takeL (c :: r) = none := by rw [takeL, if_neg h, if_neg h']
theorem tail2_some {r : Bs} {x : UInt8} {t : Bs} (h : tail2 r = some (x, t)) : ∃ a b, r = a :: b :: t ∧ two a b = some x := by
  match r with
  | [] => cases h
  | [_] => cases h
  | a :: b :: t' =>
    simp only [tail2, Option.map_eq_some_iff, Prod.mk.injEq] at h
    obtain ⟨y, hy, rfl, rfl⟩ := h
    exact ⟨a, b, rfl, hy⟩
theorem takeL_some {s : Bs} {x : UInt8} {t : Bs} (h : takeL s = some (x, t)) : (plainC x = true ∧ s = x :: t) ∨ ∃ a b, s = 37 :: a :: b :: t ∧ two a b = some x := by
  match s with
  | [] => cases h
  | c :: r =>
    by_cases hp : plainC c = true
    · rw [take_plain r hp] at h
      simp only [Option.some.injEq, Prod.mk.injEq] at h
      obtain ⟨rfl, rfl⟩ := h
      exact Or.inl ⟨hp, rfl⟩
    · by_cases h37 : c = 37
      · rw [take_esc r hp h37] at h
        obtain ⟨a, b, rfl, e⟩ := tail2_some h
        exact Or.inr ⟨a, b, by rw [h37], e⟩
      · rw [take_no r hp h37] at h; cases h
theorem takeL_lt {s : Bs} {c : UInt8} {t : Bs} (h : takeL s = some (c, t)) : t.length < s.length := by
  rcases takeL_some h with ⟨_, rfl⟩ | ⟨a, b, rfl, _⟩
  · simp
  · simp; omega
def scanN : Nat → Bs → Option Bs
  | _, [] => some []
  | 0, _ :: _ => none
  | n + 1, c :: r => match takeL (c :: r) with
    | none => none
    | some (x, t) => (scanN n t).map (x :: ·)
def scan (s : Bs) : Option Bs := scanN s.length s
theorem scanN_more : ∀ (n m : Nat) (s : Bs), s.length ≤ n → s.length ≤ m → scanN n s = scanN m s
  | n, m, [], _, _ => by cases n <;> cases m <;> rfl
  | 0, _, _ :: _, h, _ => by simp at h
  | _ + 1, 0, _ :: _, _, h => by simp at h
  | n + 1, m + 1, c :: r, hn, hm => by
    unfold scanN
    match ht : takeL (c :: r) with
    | none => rfl
    | some (x, t) =>
      have := takeL_lt ht
      simp only [List.length_cons] at *
      rw [scanN_more n m t (by omega) (by omega)]
theorem scan_nil : scan [] = some [] := rfl
theorem scan_miss {s : Bs} (hs : s ≠ []) (h : takeL s = none) : scan s = none := by
  match s with
  | [] => exact absurd rfl hs
  | c :: r => unfold scan; simp only [List.length_cons]; unfold scanN; rw [h]
theorem scan_hit {s : Bs} {x : UInt8} {t : Bs} (h : takeL s = some (x, t)) : scan s = (scan t).map (x :: ·) := by
  have hl := takeL_lt h
  match s with
  | [] => simp [takeL] at h
  | c :: r =>
    unfold scan
    simp only [List.length_cons] at *
    rw [scanN, h]
    dsimp only
    rw [scanN_more r.length t.length t (by omega) (Nat.le_refl _)]
def parseV (s : Bs) : Option Bs := if s = [34, 34] then some [] else match scan s with
  | some x => if x = [] ∨ 250 < x.length then none else some x
  | none => none

/-! ### Text and Parse invert each other -/
theorem plain_enc (n : Nat) (h : n < 256) (hp : plainI n = false) : two (digU (n / 16)) (digU (n % 16)) = some (UInt8.ofNat n) := by
  have h1 : n / 16 < 16 := by omega
  have h2 : n % 16 < 16 := by omega
  unfold two
  rw [digU_nat _ h1, digU_nat _ h2, val_dig _ (by omega) (by omega), val_dig _ (by omega) (by omega)]
  rw [if_neg (by omega), show ((n / 16 : Nat) : Int) * 16 + ((n % 16 : Nat) : Int) = n from by omega, hp]
  rfl
theorem take_enc (c : UInt8) (t : Bs) : takeL (encC c ++ t) = some (c, t) := by
  unfold encC
  by_cases hp : plainC c = true
  · rw [if_pos hp]; simp [takeL, hp]
  · rw [if_neg hp]
    have hq : plainI (c.toNat : Int) = false := by simpa [plainC] using hp
    have h37 : plainC 37 = false := by decide
    show takeL (37 :: digU (c.toNat / 16) :: digU (c.toNat % 16) :: t) = _
    rw [take_esc _ (by rw [h37]; simp) rfl, tail2, plain_enc _ c.toNat_lt hq]
    simp
theorem scan_text (s : Bs) : scan (s.flatMap encC) = some s := by
  induction s with
  | nil => rfl
  | cons c r ih => rw [List.flatMap_cons, scan_hit (take_enc c _), ih]; rfl
theorem enc_ne (c : UInt8) : encC c ≠ [] := by unfold encC; split <;> simp
theorem enc_len (c : UInt8) : 1 ≤ (encC c).length ∧ (encC c).length ≤ 3 := by unfold encC; split <;> simp
theorem text_q (s : Bs) (h : s.flatMap encC = [34, 34]) : False := by
  match s with
  | [] => simp at h
  | c :: r =>
    have hc : encC c ++ r.flatMap encC = [34, 34] := h
    have := take_enc c (r.flatMap encC)
    rw [hc] at this
    have e : takeL [34, 34] = none := by decide
    rw [e] at this; cases this
theorem parse_text (s : Bs) (h : s.length ≤ 250) : parseV (textL s) = some s := by
  unfold parseV textL
  by_cases hs : s = []
  · rw [if_pos hs, if_pos rfl, hs]
  · rw [if_neg hs, if_neg (fun e => text_q s e), scan_text]
    dsimp only
    rw [if_neg (by rintro (h' | h'); exact hs h'; omega)]
theorem enc_two {h l x : UInt8} (e : two h l = some x) : encC x = [37, h, l] := by
  unfold two at e
  split at e
  · cases e
  · rename_i g
    split at e
    · cases e
    · rename_i gp
      simp only [Option.some.injEq] at e
      have hb := valI_bd (h.toNat : Int)
      have lb := valI_bd (l.toNat : Int)
      obtain ⟨a, ha⟩ : ∃ a : Nat, valI h.toNat = a := ⟨(valI h.toNat).toNat, by omega⟩
      obtain ⟨b, hb'⟩ : ∃ b : Nat, valI l.toNat = b := ⟨(valI l.toNat).toNat, by omega⟩
      have hx : x.toNat = a * 16 + b := by
        rw [← e, UInt8.toNat_ofNat', ha, hb']; omega
      have hh : digI a = h.toNat := by rw [← ha]; exact dig_val _ (by omega)
      have hl : digI b = l.toNat := by rw [← hb']; exact dig_val _ (by omega)
      unfold encC plainC
      rw [hx, show ((a * 16 + b : Nat) : Int) = valI h.toNat * 16 + valI l.toNat from by omega]
      rw [if_neg gp]
      have e1 : (a * 16 + b) / 16 = a := by omega
      have e2 : (a * 16 + b) % 16 = b := by omega
      rw [e1, e2]
      have f1 : digU a = h := by unfold digU; rw [hh]; simp
      have f2 : digU b = l := by unfold digU; rw [hl]; simp
      rw [f1, f2]
theorem enc_take {s : Bs} {x : UInt8} {t : Bs} (h : takeL s = some (x, t)) : s = encC x ++ t := by
  rcases takeL_some h with ⟨hp, rfl⟩ | ⟨a, b, rfl, e⟩
  · unfold encC; rw [if_pos hp]; rfl
  · rw [enc_two e]; rfl
theorem scan_inv : ∀ (n : Nat) (s x : Bs), s.length ≤ n → scan s = some x → x.flatMap encC = s
  | _, [], x, _, h => by simp [scan_nil] at h; subst h; rfl
  | 0, _ :: _, _, h, _ => by simp at h
  | n + 1, c :: r, x, hn, h => by
    match ht : takeL (c :: r) with
    | none => rw [scan_miss (by simp) ht] at h; cases h
    | some (y, t) =>
      rw [scan_hit ht, Option.map_eq_some_iff] at h
      obtain ⟨z, hz, rfl⟩ := h
      have hl := takeL_lt ht
      simp only [List.length_cons] at *
      rw [List.flatMap_cons, scan_inv n t z (by omega) hz, ← enc_take ht]
theorem text_parse (s x : Bs) (h : parseV s = some x) : textL x = s ∧ x.length ≤ 250 := by
  unfold parseV at h
  split at h
  · rename_i e
    simp only [Option.some.injEq] at h
    subst h; subst e; exact ⟨rfl, by simp⟩
  · split at h
    · rename_i y hy
      split at h
      · cases h
      · rename_i g
        simp only [Option.some.injEq] at h
        subst h
        have g1 : ¬ y = [] := fun e => g (Or.inl e)
        have g2 : ¬ 250 < y.length := fun e => g (Or.inr e)
        exact ⟨by unfold textL; rw [if_neg g1]; exact scan_inv _ _ _ (Nat.le_refl _) hy, by omega⟩
    · cases h
end Go.Proofs.YtjieiakgikhofaaDoor.Km
