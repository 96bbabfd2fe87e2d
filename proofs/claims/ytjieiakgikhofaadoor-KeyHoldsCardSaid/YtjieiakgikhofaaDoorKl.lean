/- Proves what the functions of package key that read the table of digits return, and their like of the specification: what a digit stands for, the byte that a text begins with; and what two strings have in common. Condition: the table holds the sixteen digits. -/
import Derived.Test.YtjieiakgikhofaaDoorKv
import Derived.Laws.Rows
import Derived.BigQuiet
import Derived.Deep.QuietTactic
namespace Go.Proofs.YtjieiakgikhofaaDoor.Kl
open Go.RowKit Km Kt Kv

def digCells : Array Value := #[.int .u8 48, .int .u8 49, .int .u8 50, .int .u8 51, .int .u8 52, .int .u8 53, .int .u8 54, .int .u8 55, .int .u8 56, .int .u8 57, .int .u8 97, .int .u8 98, .int .u8 99, .int .u8 100, .int .u8 101, .int .u8 102]
/-- What the walks ask of the world: one of the library's variables holds a number, and the table of digits is laid. -/
structure Env (w : World) : Prop where
  mlen : ∃ m, w.cell? ⟨1, 0, none⟩ = some (.int .i64 m)
  tab : ∃ t fr, w.heap[(0 : Nat)]? = some (.cells digCells t fr)
theorem Env.size {w : World} (h : Env w) : 0 < w.heap.size ∧ 1 < w.heap.size := by
  obtain ⟨m, hm⟩ := h.mlen
  obtain ⟨t, fr, hf⟩ := h.tab
  exact ⟨(Array.getElem?_eq_some_iff.1 hf).1, block_lt_of_cell hm⟩
theorem Env.below {w w' : World} {B : Nat} (h : Env w) (hb : Below B w w') (hB : w.heap.size ≤ B) : Env w' := by
  obtain ⟨h1, h2⟩ := h.size
  obtain ⟨m, hm⟩ := h.mlen
  obtain ⟨t, fr, hf⟩ := h.tab
  exact ⟨⟨m, by rw [hb.cell (by show 1 < B; omega)]; exact hm⟩, ⟨t, fr, by rw [hb.block _ (by omega)]; exact hf⟩⟩
theorem Env.drew {w : World} (h : Env w) : Env w.drew := ⟨h.mlen, h.tab⟩
theorem Env.dig {w : World} (h : Env w) (k : Nat) (hk : k < 16) : w.cell? ⟨0, k, none⟩ = some (.int .u8 (digI k)) := by
  obtain ⟨t, fr, hf⟩ := h.tab
  rw [cell_of_row w _ k digCells _ fr hf]
  match k, hk with
  | 0, _ | 1, _ | 2, _ | 3, _ | 4, _ | 5, _ | 6, _ | 7, _ | 8, _ | 9, _ | 10, _ | 11, _ | 12, _ | 13, _ | 14, _ | 15, _ => rfl
  | k + 16, h => omega

theorem info72 : (Tryd.prog.info? 72).map (·.size) = some digCells.size := by kernel_rfl
theorem idx72 : ∀ (k : Nat) (w : World), k < 16 → (Instr.index 72 (.agg digCells) (.int .i64 k)).run Tryd.prog w = .ok (.int .u8 (digI k)) w
  | 0, w, _ | 1, w, _ | 2, w, _ | 3, w, _ | 4, w, _ | 5, w, _ | 6, w, _ | 7, w, _ | 8, w, _ | 9, w, _ | 10, w, _ | 11, w, _ | 12, w, _ | 13, w, _ | 14, w, _ | 15, w, _ => by kernel_rfl
  | k + 16, _, h => by omega
theorem ret_i {a b : Int} (h : a = b) : Ending.returned (.int .i64 a) = .returned (.int .i64 b) := by rw [h]

set_option maxRecDepth 100000 in
set_option maxHeartbeats 400000 in
theorem value_any (a : Int) (w : World) (he : Env w) (h0 : 0 ≤ a) (h1 : a < 256) :
    Calls Tryd.prog 55 #[.int .u8 a] w fun e w' => e = .returned (.int .i64 (valI a)) ∧ w = w' := by
  obtain ⟨ty, fr, hg⟩ := he.tab
  have HG := Lib.hid hg; clear hg
  go_enter Tryd.func55, Tryd.ntmps55
  go_wp2_with (refine wpList_load_row rfl 72 _ rfl 0 rfl _ digCells _ _ HG.out Tryd.underlying72 rfl info72 ?_)
  go_loop [3, 4, 6] (fun _ _ i => ∃ k : Nat, k ≤ 16 ∧ i = .int .i64 k ∧ ∀ j : Nat, j < k → digI j ≠ a) (fun _ _ i => 16 - (intOf i).toNat)
  case atStart => exact ⟨0, Nat.zero_le _, rfl, fun j h => by omega⟩
  case round =>
    obtain ⟨k, hk, rfl, hno⟩ := hrel
    have HN := Lib.hid hno; clear hno
    by_cases hlt : k < 16
    · have hi := idx72 k w hlt
      obtain ⟨hb1, hb2⟩ := digI_bd k (by omega) (by omega)
      obtain ⟨d, hd⟩ : ∃ d, d = digI k := ⟨_, rfl⟩
      rw [← hd] at hi hb1 hb2
      have HD := Lib.hid hd; clear hd
      by_cases hq : d = a
      · subst hq
        go_wp2
        go_ret
        exact ⟨ret_i (by rw [HD.out, val_dig k (by omega) (by omega)]), rfl⟩
      · have hb' : (d == a) = false := by rw [beq_eq_false_iff_ne]; exact hq
        have HQ := Lib.hid hq; clear hq
        go_wp2
        go_round
        case rel => exact ⟨k + 1, by omega, by go_num, fun j hj => by
          rcases Nat.lt_or_ge j k with h | h
          · exact HN.out j h
          · rw [show j = k from by omega, ← HD.out]; exact HQ.out⟩
        case measure => simp [intOf]; omega
    · obtain rfl : k = 16 := by omega
      go_wp2
      go_ret
      exact ⟨ret_i (by rw [val_none a HN.out]), rfl⟩

theorem idxS : ∀ (k : Nat) (w : World), k < 16 → (Instr.index 9 (.string ⟨#[48, 49, 50, 51, 52, 53, 54, 55, 56, 57, 97, 98, 99, 100, 101, 102]⟩) (.int .i64 k)).run Tryd.prog w = .ok (.int .u8 (digI k)) w
  | 0, w, _ | 1, w, _ | 2, w, _ | 3, w, _ | 4, w, _ | 5, w, _ | 6, w, _ | 7, w, _ | 8, w, _ | 9, w, _ | 10, w, _ | 11, w, _ | 12, w, _ | 13, w, _ | 14, w, _ | 15, w, _ => by kernel_rfl
  | k + 16, _, h => by omega
theorem ret_ub {a b : Int} {c d : Bool} (h : a = b) (k : c = d) : Ending.returned (.tuple #[.int .u8 a, .bool c]) = .returned (.tuple #[.int .u8 b, .bool d]) := by rw [h, k]
def digB (a : Int) : Bool := decide (0 ≤ valI a)
def digR (a : Int) : Int := if 0 ≤ valI a then valI a else 0

set_option maxRecDepth 100000 in
set_option maxHeartbeats 400000 in
theorem digit_any (a : Int) (w : World) (h0 : 0 ≤ a) (h1 : a < 256) :
    Calls Tryd.prog 44 #[.int .u8 a] w fun e w' => e = .returned (.tuple #[.int .u8 (digR a), .bool (digB a)]) ∧ w = w' := by
  go_enter Tryd.func44, Tryd.ntmps44
  go_wp2
  go_loop [4] (fun i => ∃ k : Nat, k ≤ 16 ∧ i = .int .i64 k ∧ ∀ j : Nat, j < k → digI j ≠ a) (fun i => 16 - (intOf i).toNat)
  case atStart => exact ⟨0, Nat.zero_le _, rfl, fun j h => by omega⟩
  case round =>
    obtain ⟨k, hk, rfl, hno⟩ := hrel
    have HN := Lib.hid hno; clear hno
    by_cases hlt : k < 16
    · have hi := idxS k w hlt
      obtain ⟨hb1, hb2⟩ := digI_bd k (by omega) (by omega)
      obtain ⟨d, hd⟩ : ∃ d, d = digI k := ⟨_, rfl⟩
      rw [← hd] at hi hb1 hb2
      have HD := Lib.hid hd; clear hd
      by_cases hq : d = a
      · subst hq
        go_wp2
        go_ret2
        have hv : valI d = k := by rw [HD.out, val_dig k (by omega) (by omega)]
        exact ⟨ret_ub (by unfold digR; rw [hv, if_pos (by omega)]) (by unfold digB; rw [hv]; simp), rfl⟩
      · have hb' : (d == a) = false := by rw [beq_eq_false_iff_ne]; exact hq
        have HQ := Lib.hid hq; clear hq
        go_wp2
        go_round
        case rel => exact ⟨k + 1, by omega, by go_num, fun j hj => by
          rcases Nat.lt_or_ge j k with h | h
          · exact HN.out j h
          · rw [show j = k from by omega, ← HD.out]; exact HQ.out⟩
        case measure => simp [intOf]; omega
    · obtain rfl : k = 16 := by omega
      go_wp2
      go_ret2
      exact ⟨ret_ub (by unfold digR; rw [val_none a HN.out]; rfl) (by unfold digB; rw [val_none a HN.out]; rfl), rfl⟩

/-- A quiet callee whose contract says that the world stays: what a region that draws its order asks. -/
theorem quietL {P : Program} {f : FuncId} {args : Array Value} {w : World} {n : Nat} {v : Value}
    (h : Calls P f args (w.drewN n) fun e w' => e = .returned v ∧ w.drewN n = w') : Calls P f args (w.drewN n) fun e w' => e = .returned v ∧ ∃ m, w' = w.drewN m :=
  h.mono fun _ _ hh => ⟨hh.1, n, hh.2.symm⟩
theorem Env.drewN {w : World} (h : Env w) (n : Nat) : Env (w.drewN n) := ⟨h.mlen, h.tab⟩
theorem idx_str (s : ByteArray) (k : Nat) (h : k < s.size) (w : World) : (Instr.index 9 (.string s) (.int .i64 k)).run Tryd.prog w = .ok (.int .u8 s[k].toNat) w := by
  rw [run_index_string w 9 s .i64 k Tryd.underlying9]
  simp [h]
theorem dataK (s : ByteArray) (k : Nat) (h : k < s.size) : s.data.toList.drop k = s[k] :: s.data.toList.drop (k + 1) := by
  rw [List.drop_eq_getElem_cons (by simpa using h)]; rfl

theorem drewN_zero (w : World) : w.drewN 0 = w := rfl
theorem or_dig : ∀ a b : Fin 16, bits .or .i64 ((a.val : Int) * 16) (b.val : Int) % 256 = (a.val : Int) * 16 + b.val := by decide +kernel
theorem or_eq (h l : Int) (h0 : 0 ≤ h) (h1 : h < 16) (l0 : 0 ≤ l) (l1 : l < 16) : bits .or .i64 (h * 16) l % 256 = h * 16 + l := by
  have := or_dig ⟨h.toNat, by omega⟩ ⟨l.toNat, by omega⟩
  simp only [show ((h.toNat : Nat) : Int) = h from by omega, show ((l.toNat : Nat) : Int) = l from by omega] at this
  exact this
theorem data1 (s : ByteArray) (h : 0 < s.size) : s.data.toList = s[0] :: s.data.toList.drop 1 := dataK s 0 h
theorem data3 (s : ByteArray) (h : 2 < s.size) : s.data.toList = s[0] :: s[1] :: s[2] :: s.data.toList.drop 3 := by
  rw [data1 s (by omega), dataK s 1 (by omega), dataK s 2 (by omega)]; simp
def tkPost (w : World) (c n : Int) : Ending → World → Prop := fun e w' => e = .returned (.tuple #[.int .u8 c, .int .i64 n]) ∧ ∃ m, w' = w.drewN m

set_option maxRecDepth 100000 in
set_option maxHeartbeats 400000 in
theorem tk_plain (s : ByteArray) (w : World) (h0 : 0 < s.size) (hp : plainI s[0].toNat = true) :
    Calls Tryd.prog 45 #[.string s] w (tkPost w s[0].toNat 1) := by
  have c0 := s[0].toNat_lt
  have HP := Lib.hid hp; clear hp
  go_enter Tryd.func45, Tryd.ntmps45
  go_wp2_with fail
  refine (plain_any _ _ (by omega) (by omega)).mono ?_
  rintro e w' ⟨rfl, rfl⟩
  rw [HP.out]
  go_wp2_with fail
  go_ret2
  exact ⟨rfl, 0, rfl⟩

set_option maxRecDepth 100000 in
set_option maxHeartbeats 400000 in
theorem tk_other (s : ByteArray) (w : World) (h0 : 0 < s.size) (hp : plainI s[0].toNat = false) (hn : ¬ s[0].toNat = 37) :
    Calls Tryd.prog 45 #[.string s] w (tkPost w 0 0) := by
  have c0 := s[0].toNat_lt
  have HP := Lib.hid hp; clear hp
  have hb : (((s[0].toNat : Nat) : Int) != 37) = true := by rw [bne_iff_ne]; omega
  have HN := Lib.hid hn; clear hn
  go_enter Tryd.func45, Tryd.ntmps45
  go_wp2_with fail
  refine (plain_any _ _ (by omega) (by omega)).mono ?_
  rintro e w' ⟨rfl, rfl⟩
  rw [HP.out]
  go_wp2_with fail
  go_ret2
  exact ⟨rfl, 0, rfl⟩

set_option maxRecDepth 100000 in
set_option maxHeartbeats 400000 in
theorem tk_short (s : ByteArray) (w : World) (hs : s.size ≤ maxLen) (h0 : 0 < s.size) (hp : plainI s[0].toNat = false) (hn : s[0].toNat = 37) (h3 : s.size < 3) :
    Calls Tryd.prog 45 #[.string s] w (tkPost w 0 0) := by
  unfold maxLen at hs
  have c0 := s[0].toNat_lt
  have HP := Lib.hid hp; clear hp
  have hb : (((s[0].toNat : Nat) : Int) != 37) = false := by rw [hn]; rfl
  have HN := Lib.hid hn; clear hn
  have g3 : decide ((s.size : Int) < 3) = true := by simp; omega
  go_enter Tryd.func45, Tryd.ntmps45
  go_wp2_with fail
  refine (plain_any _ _ (by omega) (by omega)).mono ?_
  rintro e w' ⟨rfl, rfl⟩
  rw [HP.out]
  go_wp2_with fail
  go_ret2
  exact ⟨rfl, 0, rfl⟩

set_option maxRecDepth 100000 in
set_option maxHeartbeats 400000 in
theorem tk_no1 (s : ByteArray) (w : World) (he : Env w) (hs : s.size ≤ maxLen) (h0 : 0 < s.size) (hp : plainI s[0].toNat = false) (hn : s[0].toNat = 37) (h3 : 2 < s.size) (hv : valI (s[1].toNat : Int) < (0 : Int)) :
    Calls Tryd.prog 45 #[.string s] w (tkPost w 0 0) := by
  unfold maxLen at hs
  have c0 := s[0].toNat_lt
  have HP := Lib.hid hp; clear hp
  have hb : (((s[0].toNat : Nat) : Int) != 37) = false := by rw [hn]; rfl
  have HN := Lib.hid hn; clear hn
  have g1 : 1 < s.size := by omega
  have c1 := s[1].toNat_lt
  have c2 := s[2].toNat_lt
  have i1 : (1 : Int) < s.size := by omega
  have i2 : (2 : Int) < s.size := by omega
  have g3 : decide ((s.size : Int) < 3) = false := by simp; omega
  have hd : decide (valI (s[1].toNat : Int) < (0 : Int)) = true := by simpa using hv
  go_enter Tryd.func45, Tryd.ntmps45
  go_wp2_with fail
  refine (plain_any _ _ (by omega) (by omega)).mono ?_
  rintro e w' ⟨rfl, rfl⟩
  rw [HP.out]
  go_wp2_with fail
  go_quiet ((go_at_call 55; exact quietL (value_any _ _ (he.drewN _) (by omega) (by omega))))
  go_wp2_with fail
  go_ret2
  exact ⟨rfl, _, rfl⟩

set_option maxRecDepth 100000 in
set_option maxHeartbeats 400000 in
theorem tk_no2 (s : ByteArray) (w : World) (he : Env w) (hs : s.size ≤ maxLen) (h0 : 0 < s.size) (hp : plainI s[0].toNat = false) (hn : s[0].toNat = 37) (h3 : 2 < s.size) (hv : (0 : Int) ≤ valI (s[1].toNat : Int)) (hv' : valI (s[2].toNat : Int) < (0 : Int)) :
    Calls Tryd.prog 45 #[.string s] w (tkPost w 0 0) := by
  unfold maxLen at hs
  have c0 := s[0].toNat_lt
  have HP := Lib.hid hp; clear hp
  have hb : (((s[0].toNat : Nat) : Int) != 37) = false := by rw [hn]; rfl
  have HN := Lib.hid hn; clear hn
  have g1 : 1 < s.size := by omega
  have c1 := s[1].toNat_lt
  have c2 := s[2].toNat_lt
  have i1 : (1 : Int) < s.size := by omega
  have i2 : (2 : Int) < s.size := by omega
  have g3 : decide ((s.size : Int) < 3) = false := by simp; omega
  have hd : decide (valI (s[1].toNat : Int) < (0 : Int)) = false := by simpa using hv
  have hd' : decide (valI (s[2].toNat : Int) < (0 : Int)) = true := by simpa using hv'
  go_enter Tryd.func45, Tryd.ntmps45
  go_wp2_with fail
  refine (plain_any _ _ (by omega) (by omega)).mono ?_
  rintro e w' ⟨rfl, rfl⟩
  rw [HP.out]
  go_wp2_with fail
  go_quiet ((go_at_call 55; exact quietL (value_any _ _ (he.drewN _) (by omega) (by omega))))
  go_wp2_with fail
  go_ret2
  exact ⟨rfl, _, rfl⟩

set_option maxRecDepth 100000 in
set_option maxHeartbeats 400000 in
theorem tk_no3 (s : ByteArray) (w : World) (he : Env w) (hs : s.size ≤ maxLen) (h0 : 0 < s.size) (hp : plainI s[0].toNat = false) (hn : s[0].toNat = 37) (h3 : 2 < s.size) (hv : (0 : Int) ≤ valI (s[1].toNat : Int)) (hv' : (0 : Int) ≤ valI (s[2].toNat : Int)) (hq : plainI (valI (s[1].toNat : Int) * (16 : Int) + valI (s[2].toNat : Int)) = true) :
    Calls Tryd.prog 45 #[.string s] w (tkPost w 0 0) := by
  unfold maxLen at hs
  have c0 := s[0].toNat_lt
  have HP := Lib.hid hp; clear hp
  have hb : (((s[0].toNat : Nat) : Int) != 37) = false := by rw [hn]; rfl
  have HN := Lib.hid hn; clear hn
  have g1 : 1 < s.size := by omega
  have c1 := s[1].toNat_lt
  have c2 := s[2].toNat_lt
  have i1 : (1 : Int) < s.size := by omega
  have i2 : (2 : Int) < s.size := by omega
  have g3 : decide ((s.size : Int) < 3) = false := by simp; omega
  have hd : decide (valI (s[1].toNat : Int) < (0 : Int)) = false := by simpa using hv
  have hd' : decide (valI (s[2].toNat : Int) < (0 : Int)) = false := by simpa using hv'
  have v1 := (valI_bd (s[1].toNat : Int)).2
  have v2 := (valI_bd (s[2].toNat : Int)).2
  have HO := Lib.hid (or_eq _ _ hv v1 hv' v2)
  have HQ := Lib.hid hq; clear hq
  go_enter Tryd.func45, Tryd.ntmps45
  go_wp2_with fail
  refine (plain_any _ _ (by omega) (by omega)).mono ?_
  rintro e w' ⟨rfl, rfl⟩
  rw [HP.out]
  go_wp2_with fail
  go_quiet ((go_at_call 55; exact quietL (value_any _ _ (he.drewN _) (by omega) (by omega))))
  go_wp2_with fail
  rw [HO.out]
  refine (plain_any _ _ (by omega) (by omega)).mono ?_
  rintro e w' ⟨rfl, rfl⟩
  rw [HQ.out]
  go_wp2_with fail
  go_ret2
  exact ⟨rfl, _, rfl⟩

set_option maxRecDepth 100000 in
set_option maxHeartbeats 400000 in
theorem tk_two (s : ByteArray) (w : World) (he : Env w) (hs : s.size ≤ maxLen) (h0 : 0 < s.size) (hp : plainI s[0].toNat = false) (hn : s[0].toNat = 37) (h3 : 2 < s.size) (hv : (0 : Int) ≤ valI (s[1].toNat : Int)) (hv' : (0 : Int) ≤ valI (s[2].toNat : Int)) (hq : plainI (valI (s[1].toNat : Int) * (16 : Int) + valI (s[2].toNat : Int)) = false) :
    Calls Tryd.prog 45 #[.string s] w (tkPost w (valI (s[1].toNat : Int) * (16 : Int) + valI (s[2].toNat : Int)) 3) := by
  unfold maxLen at hs
  have c0 := s[0].toNat_lt
  have HP := Lib.hid hp; clear hp
  have hb : (((s[0].toNat : Nat) : Int) != 37) = false := by rw [hn]; rfl
  have HN := Lib.hid hn; clear hn
  have g1 : 1 < s.size := by omega
  have c1 := s[1].toNat_lt
  have c2 := s[2].toNat_lt
  have i1 : (1 : Int) < s.size := by omega
  have i2 : (2 : Int) < s.size := by omega
  have g3 : decide ((s.size : Int) < 3) = false := by simp; omega
  have hd : decide (valI (s[1].toNat : Int) < (0 : Int)) = false := by simpa using hv
  have hd' : decide (valI (s[2].toNat : Int) < (0 : Int)) = false := by simpa using hv'
  have v1 := (valI_bd (s[1].toNat : Int)).2
  have v2 := (valI_bd (s[2].toNat : Int)).2
  have HO := Lib.hid (or_eq _ _ hv v1 hv' v2)
  have HQ := Lib.hid hq; clear hq
  go_enter Tryd.func45, Tryd.ntmps45
  go_wp2_with fail
  refine (plain_any _ _ (by omega) (by omega)).mono ?_
  rintro e w' ⟨rfl, rfl⟩
  rw [HP.out]
  go_wp2_with fail
  go_quiet ((go_at_call 55; exact quietL (value_any _ _ (he.drewN _) (by omega) (by omega))))
  go_wp2_with fail
  rw [HO.out]
  refine (plain_any _ _ (by omega) (by omega)).mono ?_
  rintro e w' ⟨rfl, rfl⟩
  rw [HQ.out]
  go_wp2_with fail
  go_ret2
  exact ⟨rfl, _, rfl⟩

theorem take_hit (s : ByteArray) (w : World) (he : Env w) (hs : s.size ≤ maxLen) {x : UInt8} {t : Bs} (h : takeL s.data.toList = some (x, t)) :
    Calls Tryd.prog 45 #[.string s] w (tkPost w x.toNat ((s.size - t.length : Nat) : Int)) := by
  have hl : s.data.toList.length = s.size := len_eq s
  rcases takeL_some h with ⟨hp, e⟩ | ⟨a, b, e, ht⟩
  · have h0 : 0 < s.size := by rw [← hl, e]; simp
    have e1 := data1 s h0
    rw [e] at e1
    have ex : x = s[0] := (List.cons.inj e1).1
    have en : s.size - t.length = 1 := by rw [← hl, e]; simp
    rw [en, ex]
    exact tk_plain s w h0 (by rw [← ex]; exact hp)
  · have h3 : 2 < s.size := by rw [← hl, e]; simp
    have e1 := data3 s h3
    rw [e] at e1
    simp only [List.cons.injEq] at e1
    obtain ⟨e37, ea, eb, _⟩ := e1
    have en : s.size - t.length = 3 := by rw [← hl, e]; simp; omega
    have n37 : s[0].toNat = 37 := by rw [← e37]; rfl
    have hp : plainI s[0].toNat = false := by rw [n37]; decide
    unfold two at ht
    split at ht
    · cases ht
    · rename_i g
      split at ht
      · cases ht
      · rename_i g'
        simp only [Option.some.injEq] at ht
        rw [ea, eb] at ht g g'
        have v1 := (valI_bd (s[1].toNat : Int)).2
        have v2 := (valI_bd (s[2].toNat : Int)).2
        have hx : ((x.toNat : Nat) : Int) = valI (s[1].toNat : Int) * (16 : Int) + valI (s[2].toNat : Int) := by
          rw [← ht, UInt8.toNat_ofNat']; omega
        rw [en, hx]
        exact tk_two s w he hs (by omega) hp n37 h3 (by omega) (by omega) (by simpa using g')
theorem take_miss (s : ByteArray) (w : World) (he : Env w) (hs : s.size ≤ maxLen) (h0 : 0 < s.size) (h : takeL s.data.toList = none) :
    Calls Tryd.prog 45 #[.string s] w (tkPost w 0 0) := by
  by_cases hp : plainI s[0].toNat = true
  · rw [data1 s h0, take_plain _ hp] at h; cases h
  · have hp' : plainI s[0].toNat = false := by simpa using hp
    by_cases hn : s[0].toNat = 37
    · have e37 : s[0] = 37 := UInt8.toNat_inj.1 hn
      by_cases h3 : 2 < s.size
      · rw [data3 s h3, take_esc _ hp e37] at h
        simp only [tail2, Option.map_eq_none_iff] at h
        by_cases v1 : (0 : Int) ≤ valI (s[1].toNat : Int)
        · by_cases v2 : (0 : Int) ≤ valI (s[2].toNat : Int)
          · unfold two at h
            rw [if_neg (by omega)] at h
            split at h
            · rename_i g; exact tk_no3 s w he hs h0 hp' hn h3 v1 v2 g
            · cases h
          · exact tk_no2 s w he hs h0 hp' hn h3 v1 (by omega)
        · exact tk_no1 s w he hs h0 hp' hn h3 (by omega)
      · exact tk_short s w hs h0 hp' hn (by omega)
    · exact tk_other s w h0 hp' hn
end Go.Proofs.YtjieiakgikhofaaDoor.Kl
