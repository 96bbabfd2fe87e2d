/- Proves what the method forget of a table leaves: the name is out of its chain, and its number is free. Conditions: as each theorem names them. -/
import Derived.Test.YtmhbfplpodikiaaInj
import Derived.Test.YtmhbfplpodikiaaInk
namespace Go.Proofs.Ytmhbfplpodikiaa.Inl
open Go.RowKit Ap Mi Nw Rg Aa Ai Hm Ina Inb Inc Ind Ine Inf Ing Inh Ini Inj Ink Ag

theorem cnt_split {n : Nat} : ∀ {l : List Nat}, l.Pairwise (· < ·) → (∀ j (hj : j < l.length), j < (l.countP fun y => decide (y < n)) → l[j] < n) ∧ (∀ j (hj : j < l.length), (l.countP fun y => decide (y < n)) ≤ j → n ≤ l[j])
  | [], _ => ⟨fun j hj => by simp at hj, fun j hj => by simp at hj⟩
  | x :: l, h => by
    have h' := List.pairwise_cons.1 h
    obtain ⟨h1, h2⟩ := cnt_split (n := n) h'.2
    by_cases hx : x < n
    · have e : ((x :: l).countP fun y => decide (y < n)) = (l.countP fun y => decide (y < n)) + 1 := by rw [List.countP_cons]; simp [hx]
      rw [e]
      refine ⟨fun j hj hlt => ?_, fun j hj hle => ?_⟩
      · cases j with
        | zero => exact hx
        | succ j => exact h1 j (by simpa using hj) (by omega)
      · cases j with
        | zero => omega
        | succ j => exact h2 j (by simpa using hj) (by omega)
    · have e0 : (l.countP fun y => decide (y < n)) = 0 := by
        rw [List.countP_eq_zero]
        intro y hy
        have := h'.1 y hy
        simp; omega
      have e : ((x :: l).countP fun y => decide (y < n)) = 0 := by rw [List.countP_cons, e0]; simp [hx]
      rw [e]
      refine ⟨fun j hj hlt => by omega, fun j hj _ => ?_⟩
      cases j with
      | zero => show n ≤ x; omega
      | succ j =>
        have hj' : j < l.length := by simpa using hj
        have := h'.1 _ (List.getElem_mem hj')
        show n ≤ l[j]
        omega
/-- What a search leaves. -/
def seaPost (w : World) (fr : List Nat) (n : Nat) : Ending → World → Prop := fun e w' => ∃ (i : Nat) (b : Bool), e = .returned (.tuple #[.int .i64 (i : Int), .bool b]) ∧ i ≤ fr.length ∧ (∀ j (hj : j < fr.length), j < i → fr[j] < n) ∧ (∀ j (hj : j < fr.length), i ≤ j → n ≤ fr[j]) ∧ ∃ q, w' = w.drewN q
theorem search_any {w : World} {R : Option Addr} {cf : Nat} {fr : List Nat} (h : Mine 0 1 w R fr.length cf (ns fr)) (hs : fr.Pairwise (· < ·)) (hl : fr.length ≤ 1000000) (n : Nat) :
    Calls Try.prog 51 #[.slice R fr.length cf, .int .i64 (n : Int)] w (seaPost w fr n) := by
  rcases Nat.eq_zero_or_pos fr.length with h0 | h0
  · have e : fr = [] := List.eq_nil_of_length_eq_zero h0
    subst e
    refine (Try.slices_BinarySearch_int_empty R cf (n : Int) w).mono ?_
    rintro e w' ⟨rfl, rfl⟩
    exact ⟨0, false, rfl, Nat.le_refl _, fun j hj => by simp at hj, fun j hj => by simp at hj, 0, rfl⟩
  · obtain ⟨rb, ro, rfl, _, _⟩ := mine_place h (by rw [ns_len]; exact h0)
    have hz : ∀ j, (fr.map fun y : Nat => (y : Int)).getD j 0 = ((fr.getD j 0 : Nat) : Int) := fun j => by
      rw [List.getD_eq_getElem?_getD, List.getD_eq_getElem?_getD, List.getElem?_map]
      cases fr[j]? <;> rfl
    have hlen : (fr.map fun y : Nat => (y : Int)).length = fr.length := by simp
    have ht : (fr.map fun y : Nat => (y : Int)).take fr.length = fr.map fun y : Nat => (y : Int) := List.take_of_length_le (by simp)
    have hc := Try.slices_BinarySearch_int rb ro fr.length cf (fr.map fun y : Nat => (y : Int)) (n : Int) w (by omega) (by omega) (fun j hj => by
      rw [hlen] at hj
      rw [(mine_cell h (ns_get hj)).1, hz, List.getD_eq_getElem?_getD, List.getElem?_eq_getElem hj]; rfl) (by
      rw [ht, List.pairwise_map]
      exact hs.imp (fun hab => by omega))
    rw [ht] at hc
    refine hc.mono ?_
    rintro e w' ⟨rfl, hq⟩
    have ec : ((fr.map fun y : Nat => (y : Int)).countP fun y => decide (y < (n : Int))) = fr.countP fun y => decide (y < n) := by
      rw [List.countP_map]
      congr 1
      funext y
      simp
    rw [ec]
    obtain ⟨g1, g2⟩ := cnt_split (n := n) hs
    exact ⟨_, _, rfl, List.countP_le_length, g1, g2, hq⟩
theorem ns_ins (fr : List Nat) (i n : Nat) : ns (fr.take i ++ n :: fr.drop i) = ins (ns fr) i (.int .i64 (n : Int)) := by
  unfold ns ins
  rw [List.map_append, List.map_cons, List.map_take, List.map_drop]
section
variable {F F' : Nat → Prop} {p : Nat → Nat} {w w' : World} {g : Nat} {m sd : Int} {H S R : Option Addr} {ch cs cf : Nat} {hd nx : List Int} {l : List Nr} {fr : List Nat}
/-- The free numbers are another row now, the same or a new one. -/
theorem Lo_ins (h : Lo F p w g m sd H ch hd S cs l nx R cf fr) (ho : Only (fun j => F j ∧ p j = 3) w w') {R' : Option Addr} {cf' : Nat} {fr' : List Nat} (hm : Mine 0 1 w' R' fr'.length cf' (ns fr')) (hq : ∀ a, R' = some a → R' = R ∨ w.heap.size ≤ a.block) :
    (∃ p', Lo (More F w) p' (w'.setCell ⟨g, 4, none⟩ (.slice R' fr'.length cf')) g m sd H ch hd S cs l nx R' cf' fr') ∧ Only F w (w'.setCell ⟨g, 4, none⟩ (.slice R' fr'.length cf')) := by
  have hl := h.lt
  have h2 := h.mono (F' := More F w) (fun _ _ hf => Or.inl hf)
  have h3 := Lo_hue h2 (c := 3)
  obtain ⟨p', hp'⟩ : ∃ p', p' = fun j => if j < w.heap.size then p j else 3 := ⟨_, rfl⟩
  rw [← hp'] at h3
  have ho1 : Only (fun j => More F w j ∧ p' j = 3) w w' := ho.mono (fun j hj hf => ⟨Or.inl hf.1, by rw [hp']; show (if _ then _ else _) = _; rw [if_pos hj]; exact hf.2⟩)
  have ho2 : Only (fun j => j = g) w' (w'.setCell ⟨g, 4, none⟩ (.slice R' fr'.length cf')) := only_own (F := fun j => j = g) rfl _
  have ng : ∀ {c : Nat} {A : Option Addr}, Hue (More F w) p' c A → 0 ≠ c → ∀ a, A = some a → a.block ≠ g := fun {c A} hu hc a e q => by have h1 := (hu a e).2; rw [q, h3.pg] at h1; exact hc h1
  have hu : Hue (More F w) p' 3 R' := fun a e => by
    rcases hq a e with q | q
    · exact h3.rp a (by rw [← q]; exact e)
    · exact ⟨Or.inr q, by rw [hp']; show (if _ then _ else _) = _; rw [if_neg (by omega)]⟩
  exact ⟨⟨p', (keepB h3.blk h3.pg ho1 (by omega)).set 4 _, h3.fg, h3.pg, (keepM h3.hm h3.hp ho1 (by omega)).only ho2 (fun a e => ng h3.hp (by omega) a e), (keepM h3.sm h3.sp ho1 (by omega)).only ho2 (fun a e => ng h3.sp (by omega) a e), hm.only ho2 (fun a e => ng hu (by omega) a e), h3.hp, h3.sp, hu, h3.nl⟩,
    (ho.mono (fun _ _ hf => hf.1)).put (ad := ⟨g, 4, none⟩) h.fg _⟩
/-- What forget leaves. -/
def forPost (F : Nat → Prop) (w : World) (g : Nat) (m : Int) (l : List Nr) (n : Nat) : Ending → World → Prop := fun e w' => e = .returned (.tuple #[]) ∧ Gave F w w' g m (l.set n zeroN)
set_option maxRecDepth 100000 in
set_option maxHeartbeats 2000000 in
theorem forget_any {l0 : List Nr} {n : Nat} (h : Lo F p w g m sd H ch hd S cs l0 nx R cf (frees l)) (hl0 : l0.length = l.length) (hk0 : ∀ i, nk l0 i = nk l i) (hs0 : ∀ n', n' = n → l0.set n' zeroN = l.set n' zeroN) (ht : Tb sd l ⟨hd, nx⟩) (hsd : U64 sd) (hm1 : 1 ≤ m) (hm2 : m ≤ 65536) (hc : (cnt l : Int) ≤ m) (hn : lv l n) :
    Calls Try.prog 40 #[.pointer (some ⟨g, 0, none⟩), .int .i64 (n : Int)] w (forPost F w g m l n) := by
  have hle : l.length ≤ 65536 := by have h1 : l.length ≤ hd.length := ht.le; have h2 : hd.length ≤ 65536 := ht.mx; omega
  have hnl := hn.1
  have hkz : (nk l n).size ≤ 1000000 := by
    have := (ht.iv.ok _ (List.getElem_mem hnl) ((lv_at hnl).1 hn)).2
    rw [nk_at hnl]; omega
  obtain ⟨c, hcc, hcm⟩ := ht.chain (nk l n)
  obtain ⟨J, hJ⟩ := at_ex l (nk l n) c
  have hb := (bkt_lt sd ht.pw (nk l n)).1
  have hst := ht.stop hcm hJ.1 hJ.2.1 hJ.2.2
  have hfo := fnd_own ht.iv hnl ((lv_at hnl).1 hn)
  rw [← nk_at hnl] at hfo
  obtain ⟨hj, hcJ⟩ : ∃ hj : J < c.length, c[J] = n := by
    rcases hst with ⟨_, hf, _⟩ | ⟨hj, hf, _, _⟩
    · rw [hf] at hfo; cases hfo
    · rw [hf] at hfo; injection hfo with hfo; exact ⟨hj, hfo⟩
  have HTF := Lib.hid (fun v => ht.forget hn hcc hcm hj hcJ v)
  obtain ⟨_, _, _, c3, _⟩ := Blk.five h.blk
  have hnl0 : n < l0.length := by omega
  obtain ⟨sb, so, rfl, hsl, hsF, hsp, e0, _, e2, _, _, _⟩ := h.slot hnl0
  rw [hk0] at e0
  have i1 : (n : Int) < (l0.length : Int) := by omega
  have HS0 := Lib.hid (hs0 n rfl)
  have hJ0 : At l0 (nk l n) c J := ⟨hJ.1, (fun i hi q => by rw [hk0]; exact hJ.2.1 i hi q), (fun hj => by rw [hk0]; exact hJ.2.2 hj)⟩
  have HL := Lib.hid h; have HTB := Lib.hid ht; have HSD := Lib.hid hsd; have HPW : Hid (isPow (hd.length : Int) = true) := ht.pw
  have HCC := Lib.hid hcc; have HJ := Lib.hid hJ; have HN := Lib.hid hn
  have hok := hcc.ok hb (Nat.le_of_lt hj)
  have HOK := Lib.hid hok
  obtain ⟨P, hP⟩ : ∃ P, P = plc (bkt sd hd.length (nk l n)) c J := ⟨_, rfl⟩
  have hPe : plc (bkt sd (Sc.mk hd nx).hd.length (nk l n)) c J = P := hP.symm
  have hPg : (Sc.mk hd nx).nx.getD n 0 = nx.getD n 0 := rfl
  rw [hPg] at HTF
  have HPP := Lib.hid hP
  obtain ⟨X, hX⟩ : ∃ X, X = nk l n := ⟨_, rfl⟩
  obtain ⟨y, hy⟩ : ∃ y, y = nx.getD n 0 := ⟨_, rfl⟩
  have HX := Lib.hid hX; have HY := Lib.hid hy
  have b0 : w.drew.cell? ⟨g, 3, none⟩ = some (.slice (some ⟨sb, so, none⟩) l0.length cs) := c3
  have b1 : w.drew.cell? ⟨sb, so + n * 3, none⟩ = some (.string X) := by rw [hX]; exact e0
  have b2 : w.drew.cell? ⟨sb, so + n * 3 + 2, none⟩ = some (.int .i64 y) := by rw [hy]; exact e2
  have HL1 := Lib.hid h.drew
  have HO1 : Hid (Only F w w.drew) := (Only.refl F w).drew
  have HK : Hid (∀ v, Lo F p v g m sd H ch hd (some ⟨sb, so, none⟩) cs l0 nx R cf (frees l) → Calls Try.prog 44 #[.pointer (some ⟨g, 0, none⟩), .string X] v fun e w' => e = .returned (.pointer (some (adr H (some ⟨sb, so, none⟩) P))) ∧ ∃ q, w' = v.drewN q) := fun v hv => by
    rw [hX, hP]; exact link_any hv hsd ht.pw (nk l n) hkz hcc hJ0
  obtain ⟨a, ha⟩ : ∃ a, a = adr H (some ⟨sb, so, none⟩) P := ⟨_, rfl⟩
  rw [← ha] at HK
  have HA := Lib.hid ha
  have lg := h.lt
  clear h hs0 hk0 hJ0 ht hsd hcc hcm hJ hb hst hfo hok hP hPe hPg hX hy ha e0 e2 c3 hn hcJ hkz
  go_enter Try.func40, Try.ntmps40
  go_wp2_with fail
  refine wp_region_noPanic ?_
  refine wp_region_G 19 (fun v => v.cell? ⟨g, 3, none⟩ = some (.slice (some ⟨sb, so, none⟩) l0.length cs) ∧ v.cell? ⟨sb, so + n * 3, none⟩ = some (.string X) ∧ v.cell? ⟨sb, so + n * 3 + 2, none⟩ = some (.int .i64 y)) (by kernel_rfl) ?_
  generalize w.drew = u1 at HL1 HO1 b0 b1 b2 ⊢
  refine wpAnyG_take (i := 0) (oi := ⟨some 6, _, _, _, _, _⟩) (v := ?_) rfl (by kernel_rfl) (by kernel_rfl) (by kernel_rfl) (by kernel_rfl) (by kernel_rfl) (fun _ _ _ h => h) (Or.inl ⟨by rfl, ?_⟩) (⟨b0, b1, b2⟩) ?_
  rotate_left
  · intro w hSw; go_simp; first | done | with_reducible rfl
  try simp only [Act.put, List.setIfInBounds_toArray, List.set_cons_zero, List.set_cons_succ]
  refine wpAnyG_take (i := 1) (oi := ⟨some 7, _, _, _, _, _⟩) (v := ?_) rfl (by kernel_rfl) (by kernel_rfl) (by kernel_rfl) (by kernel_rfl) (by kernel_rfl) (fun _ _ _ h => h) (Or.inl ⟨by rfl, ?_⟩) (⟨b0, b1, b2⟩) ?_
  rotate_left
  · intro w hSw; go_simp; first | done | with_reducible rfl
  try simp only [Act.put, List.setIfInBounds_toArray, List.set_cons_zero, List.set_cons_succ]
  refine wpAnyG_take (i := 2) (oi := ⟨some 8, _, _, _, _, _⟩) (v := ?_) rfl (by kernel_rfl) (by kernel_rfl) (by kernel_rfl) (by kernel_rfl) (by kernel_rfl) (fun _ _ _ h => h) (Or.inl ⟨by rfl, ?_⟩) (⟨b0, b1, b2⟩) ?_
  rotate_left
  · intro w hSw; go_simp; first | done | with_reducible rfl
  try simp only [Act.put, List.setIfInBounds_toArray, List.set_cons_zero, List.set_cons_succ]
  refine wpAnyG_take (i := 3) (oi := ⟨some 9, _, _, _, _, _⟩) (v := ?_) rfl (by kernel_rfl) (by kernel_rfl) (by kernel_rfl) (by kernel_rfl) (by kernel_rfl) (fun _ _ _ h => h) (Or.inl ⟨by rfl, ?_⟩) (⟨b0, b1, b2⟩) ?_
  rotate_left
  · intro w hSw; go_simp; first | done | with_reducible rfl
  try simp only [Act.put, List.setIfInBounds_toArray, List.set_cons_zero, List.set_cons_succ]
  refine wpAnyG_take (i := 4) (oi := ⟨some 10, _, _, _, _, _⟩) (v := ?_) rfl (by kernel_rfl) (by kernel_rfl) (by kernel_rfl) (by kernel_rfl) (by kernel_rfl) (fun _ _ _ h => h) (Or.inl ⟨by rfl, ?_⟩) (⟨b0, b1, b2⟩) ?_
  rotate_left
  · intro w hSw; go_simp; first | done | with_reducible rfl
  try simp only [Act.put, List.setIfInBounds_toArray, List.set_cons_zero, List.set_cons_succ]
  refine wpAnyG_take (i := 5) (oi := ⟨some 11, _, _, _, _, _⟩) (v := ?_) rfl (by kernel_rfl) (by kernel_rfl) (by kernel_rfl) (by kernel_rfl) (by kernel_rfl) (fun _ _ _ h => h) (Or.inl ⟨by rfl, ?_⟩) (⟨b0, b1, b2⟩) ?_
  rotate_left
  · intro w hSw; go_simp; first | done | with_reducible rfl
  try simp only [Act.put, List.setIfInBounds_toArray, List.set_cons_zero, List.set_cons_succ]
  refine wpAnyG_take (i := 6) (oi := ⟨some 12, _, _, _, _, _⟩) (v := ?_) rfl (by kernel_rfl) (by kernel_rfl) (by kernel_rfl) (by kernel_rfl) (by kernel_rfl) (fun _ _ _ h => h) (Or.inl ⟨by rfl, ?_⟩) (⟨b0, b1, b2⟩) ?_
  rotate_left
  · intro w hSw; go_simp; first | done | with_reducible rfl
  try simp only [Act.put, List.setIfInBounds_toArray, List.set_cons_zero, List.set_cons_succ]
  refine wpAnyG_take (i := 7) (oi := ⟨some 13, _, _, _, _, _⟩) (v := ?_) rfl (by kernel_rfl) (by kernel_rfl) (by kernel_rfl) (by kernel_rfl) (by kernel_rfl) (fun _ _ _ h => h) (Or.inl ⟨by rfl, ?_⟩) (⟨b0, b1, b2⟩) ?_
  rotate_left
  · intro w hSw; go_simp; first | done | with_reducible rfl
  try simp only [Act.put, List.setIfInBounds_toArray, List.set_cons_zero, List.set_cons_succ]
  refine wpAnyG_take (i := 8) (oi := ⟨some 14, _, _, _, _, _⟩) (v := ?_) rfl (by kernel_rfl) (by kernel_rfl) (by kernel_rfl) (by kernel_rfl) (by kernel_rfl) (fun _ _ _ h => h) (Or.inl ⟨by rfl, ?_⟩) (⟨b0, b1, b2⟩) ?_
  rotate_left
  · intro w hSw; go_simp; first | done | with_reducible rfl
  try simp only [Act.put, List.setIfInBounds_toArray, List.set_cons_zero, List.set_cons_succ]
  refine wpAnyG_take (i := 10) (oi := ⟨some 16, _, _, _, _, _⟩) (v := ?_) rfl (by kernel_rfl) (by kernel_rfl) (by kernel_rfl) (by kernel_rfl) (by kernel_rfl) (fun _ _ _ h => h) (Or.inl ⟨by rfl, ?_⟩) (⟨b0, b1, b2⟩) ?_
  rotate_left
  · intro w hSw; go_simp; first | done | with_reducible rfl
  try simp only [Act.put, List.setIfInBounds_toArray, List.set_cons_zero, List.set_cons_succ]
  refine wpAnyG_take (i := 11) (oi := ⟨some 17, _, _, _, _, _⟩) (v := ?_) rfl (by kernel_rfl) (by kernel_rfl) (by kernel_rfl) (by kernel_rfl) (by kernel_rfl) (fun _ _ _ h => h) (Or.inl ⟨by rfl, ?_⟩) (⟨b0, b1, b2⟩) ?_
  rotate_left
  · intro w hSw; go_simp; first | done | with_reducible rfl
  try simp only [Act.put, List.setIfInBounds_toArray, List.set_cons_zero, List.set_cons_succ]
  refine wpAnyG_take (i := 12) (oi := ⟨some 18, _, _, _, _, _⟩) (v := ?_) rfl (by kernel_rfl) (by kernel_rfl) (by kernel_rfl) (by kernel_rfl) (by kernel_rfl) (fun _ _ _ h => h) (Or.inl ⟨by rfl, ?_⟩) (⟨b0, b1, b2⟩) ?_
  rotate_left
  · intro w hSw; go_simp; first | done | with_reducible rfl
  try simp only [Act.put, List.setIfInBounds_toArray, List.set_cons_zero, List.set_cons_succ]
  refine wpAnyG_take (i := 13) (oi := ⟨some 19, _, _, _, _, _⟩) (v := ?_) rfl (by kernel_rfl) (by kernel_rfl) (by kernel_rfl) (by kernel_rfl) (by kernel_rfl) (fun _ _ _ h => h) (Or.inl ⟨by rfl, ?_⟩) (⟨b0, b1, b2⟩) ?_
  rotate_left
  · intro w hSw; go_simp; first | done | with_reducible rfl
  try simp only [Act.put, List.setIfInBounds_toArray, List.set_cons_zero, List.set_cons_succ]
  refine wpAnyG_take (i := 14) (oi := ⟨some 20, _, _, _, _, _⟩) (v := ?_) rfl (by kernel_rfl) (by kernel_rfl) (by kernel_rfl) (by kernel_rfl) (by kernel_rfl) (fun _ _ _ h => h) (Or.inl ⟨by rfl, ?_⟩) (⟨b0, b1, b2⟩) ?_
  rotate_left
  · intro w hSw; go_simp; first | done | with_reducible rfl
  try simp only [Act.put, List.setIfInBounds_toArray, List.set_cons_zero, List.set_cons_succ]
  refine wpAnyG_take (i := 15) (oi := ⟨some 21, _, _, _, _, _⟩) (v := ?_) rfl (by kernel_rfl) (by kernel_rfl) (by kernel_rfl) (by kernel_rfl) (by kernel_rfl) (fun _ _ _ h => h) (Or.inl ⟨by rfl, ?_⟩) (⟨b0, b1, b2⟩) ?_
  rotate_left
  · intro w hSw; go_simp; first | done | with_reducible rfl
  try simp only [Act.put, List.setIfInBounds_toArray, List.set_cons_zero, List.set_cons_succ]
  refine wpAnyG_take (i := 16) (oi := ⟨some 22, _, _, _, _, _⟩) (v := ?_) rfl (by kernel_rfl) (by kernel_rfl) (by kernel_rfl) (by kernel_rfl) (by kernel_rfl) (fun _ _ _ h => h) (Or.inl ⟨by rfl, ?_⟩) (⟨b0, b1, b2⟩) ?_
  rotate_left
  · intro w hSw; go_simp; first | done | with_reducible rfl
  try simp only [Act.put, List.setIfInBounds_toArray, List.set_cons_zero, List.set_cons_succ]
  refine wpAnyG_take (i := 17) (oi := ⟨some 23, _, _, _, _, _⟩) (v := ?_) rfl (by kernel_rfl) (by kernel_rfl) (by kernel_rfl) (by kernel_rfl) (by kernel_rfl) (fun _ _ _ h => h) (Or.inl ⟨by rfl, ?_⟩) (⟨b0, b1, b2⟩) ?_
  rotate_left
  · intro w hSw; go_simp; first | done | with_reducible rfl
  try simp only [Act.put, List.setIfInBounds_toArray, List.set_cons_zero, List.set_cons_succ]
  refine wpAnyG_ready (rs := [9]) (by kernel_rfl) (by simp) ?_
  refine AllReadyG.cons (o := ⟨some 15, _, _, _, _, _⟩) rfl (fun K hK => ?_) AllReadyG.nil
  go_simp
  refine (HK.out _ HL1.out).mono ?_
  rintro _ u2 ⟨rfl, hq⟩
  have HL2 := Lib.hid (lo_draws HL1.out hq)
  have HO2 : Hid (Only F w u2) := HO1.out.trans (only_draws _ hq)
  have hS2 : u2.cell? ⟨g, 3, none⟩ = some (.slice (some ⟨sb, so, none⟩) l0.length cs) ∧ u2.cell? ⟨sb, so + n * 3, none⟩ = some (.string X) ∧ u2.cell? ⟨sb, so + n * 3 + 2, none⟩ = some (.int .i64 y) := by obtain ⟨q, rfl⟩ := hq; exact ⟨b0, b1, b2⟩
  obtain ⟨a1, a2, a3, a4, a5⟩ := HL2.out.place (q := P) (by rw [HPP.out]; exact HOK.out)
  rw [← HA.out] at a1 a2 a3 a4 a5
  clear hq b0 b1 b2
  refine hK.out _ _ (fun _ => hS2) ?_
  clear hK K
  try simp only [Act.put, List.setIfInBounds_toArray, List.set_cons_zero, List.set_cons_succ]
  refine wpAnyG_take (i := 18) (oi := ⟨some 24, _, _, _, _, _⟩) (v := ?_) rfl (by kernel_rfl) (by kernel_rfl) (by kernel_rfl) (by kernel_rfl) (by kernel_rfl) (fun _ _ _ h => h) (Or.inl ⟨by rfl, ?_⟩) (hS2) ?_
  rotate_left
  · intro w hSw; go_simp; first | done | with_reducible rfl
  try simp only [Act.put, List.setIfInBounds_toArray, List.set_cons_zero, List.set_cons_succ]
  refine wpAnyG_ready (rs := [19]) (by kernel_rfl) (by simp) ?_
  refine AllReadyG.cons (o := ⟨none, _, _, _, _, _⟩) rfl (fun K hK => ?_) AllReadyG.nil
  go_simp
  refine hK.out _ _ (fun h => absurd h (by omega)) ?_
  clear hK K
  try simp only [Act.put, List.setIfInBounds_toArray, List.set_cons_zero, List.set_cons_succ]
  refine wpAnyG_done (by kernel_rfl) ?_ _
  refine NoPanic.normal ?_
  have HL3 := HL2.out.put (q := P) (by rw [HPP.out]; exact HOK.out) y
  rw [← HA.out] at HL3
  have hT3 := HTF.out 0
  rw [← HPP.out, ← HY.out] at hT3
  have HO3 : Hid (Only F w (u2.setCell a (.int .i64 y))) := HO2.out.put (ad := a) a4 _
  obtain ⟨hd3, hh3⟩ : ∃ x, x = ((Sc.mk hd nx).put P y).hd := ⟨_, rfl⟩
  obtain ⟨nx3, hn3⟩ : ∃ x, x = ((Sc.mk hd nx).put P y).nx := ⟨_, rfl⟩
  rw [← hh3, ← hn3] at HL3 hT3
  obtain ⟨u3, hu3⟩ : ∃ u3, u3 = u2.setCell a (.int .i64 y) := ⟨_, rfl⟩
  rw [← hu3] at HL3 HO3 ⊢
  have HL3 := Lib.hid HL3; have HT3 := Lib.hid hT3
  obtain ⟨_, _, _, c3, c4⟩ := Blk.five HL3.out.blk
  obtain ⟨sb3, so3, hS3, _, _, _, e0, e1, e2, f0, f1, f2⟩ := HL3.out.slot hnl0
  injection hS3 with hS3; injection hS3 with q1 q2
  subst q1; subst q2
  have hgs : g ≠ sb := fun e => by have h1 := HL.out.pg; rw [e] at h1; omega
  have hsg : sb ≠ g := fun e => hgs e.symm
  have hl4 := HL3.out.whole hnl0 zeroN 0
  rw [show zeroN.k = ⟨#[]⟩ from rfl, show zeroN.r = 0 from rfl, HS0.out] at hl4
  have HL4 := Lib.hid hl4
  have HO4 : Hid (Only F w (((u3.setCell ⟨sb, so + n * 3, none⟩ (.string ⟨#[]⟩)).setCell ⟨sb, so + n * 3 + 1, none⟩ (.int .i64 0)).setCell ⟨sb, so + n * 3 + 2, none⟩ (.int .i64 0))) := ((HO3.out.put (ad := ⟨sb, so + n * 3, none⟩) hsF _).put (ad := ⟨sb, so + n * 3 + 1, none⟩) hsF _).put (ad := ⟨sb, so + n * 3 + 2, none⟩) hsF _
  have hfl := frees_len l
  have HSE := Lib.hid (search_any HL4.out.rm (frees_sorted l) (by omega) n)
  clear hl4 hT3 hh3 hn3 hu3 a1 a2 a3 a4 a5 hS2 HL2 HL1 HO1 HO2 HTF HK HO3
  go_wp2_with fail
  obtain ⟨u4, hu4⟩ : ∃ u4, u4 = ((u3.setCell ⟨sb, so + n * 3, none⟩ (.string ⟨#[]⟩)).setCell ⟨sb, so + n * 3 + 1, none⟩ (.int .i64 0)).setCell ⟨sb, so + n * 3 + 2, none⟩ (.int .i64 0) := ⟨_, rfl⟩
  rw [← hu4] at HL4 HO4 HSE ⊢
  clear hu4 c3 c4 e0 e1 e2 f0 f1 f2
  refine HSE.out.mono ?_
  rintro e u5 ⟨i, bb, rfl, hil, hs1, hs2, hq⟩
  have HL5 := Lib.hid (lo_draws HL4.out hq)
  have HO5 : Hid (Only F w u5) := HO4.out.trans (only_draws _ hq)
  have HFZ := Lib.hid (frees_zero HN.out hil hs1 hs2)
  have hbl := HL5.out.blk
  have c4 : u5.cell? ⟨g, 4, none⟩ = some (.slice R (frees l).length cf) := hbl.cell 4
  have f4 := hbl.frozen 4
  have lg5 := HL5.out.lt
  have bA := bnew u5 (.cells #[.int .i64 (n : Int)] 3)
  have HI := Lib.hid (insert_any (HL5.out.rm.below bA (Nat.le_refl _)) (Nat.zero_le _) (ns_one _) hil (by omega) (.int .i64 (n : Int)) rfl (vb := u5.heap.size) (heap_alloc_new u5 _) (fun a e hx => by have := (HL5.out.rm.base e).2.1; omega))
  have HIL := Lib.hid hil
  clear hq hs1 hs2 hbl bA HSE hil
  go_wp2_with fail
  refine HI.out.mono ?_
  rintro e u6 ⟨R', c', rfl, hm6, hR6, ho6⟩
  have HO6 : Hid (Only (fun j => F j ∧ p j = 3) u5 u6) := (Only.of_below (bnew u5 _) (Nat.le_refl _) _).trans (ho6.mono (fun j _ hf => by obtain ⟨a, e1, e2⟩ := hf; rw [← e2]; exact Or.inl (HL5.out.rp a e1)))
  have hg3 : ¬ (F g ∧ p g = 3) := fun hf => by have h1 := HL.out.pg; have h2 := hf.2; omega
  have d4 : u6.cell? ⟨g, 4, none⟩ = some (.slice R (frees l).length cf) := by rw [HO6.out.cell (a := ⟨g, 4, none⟩) lg5 hg3]; exact c4
  have e4 : u6.frozen? ⟨g, 4, none⟩ = false := by rw [HO6.out.frozen (a := ⟨g, 4, none⟩) lg5 hg3]; exact f4
  obtain ⟨fr', hfr'⟩ : ∃ x, x = (frees l).take i ++ n :: (frees l).drop i := ⟨_, rfl⟩
  have hlf : fr'.length = (frees l).length + 1 := by rw [hfr']; have h1 := HIL.out; simp; omega
  rw [← ns_ins, ← hfr', ← hlf] at hm6
  rw [← hlf]
  have HM6 := Lib.hid hm6
  have HQ6 : Hid (∀ a, R' = some a → R' = R ∨ u5.heap.size ≤ a.block) := fun a ha => by
    rcases hR6 with h | h
    · exact Or.inl h
    · have h2 : u5.heap.size + 1 ≤ a.block := by simpa using h a ha
      exact Or.inr (by omega)
  have HFR : Hid (frees (l.set n zeroN) = fr') := by show _ = _; rw [hfr']; exact HFZ.out
  have hz5 := HO5.out.size
  clear hm6 hR6 ho6 hfr' HI c4 f4 hg3
  go_wp2_with fail
  go_end0
  obtain ⟨⟨p', hfin⟩, hof⟩ := Lo_ins HL5.out HO6.out HM6.out HQ6.out
  rw [hlf] at hfin hof
  refine ⟨rfl, More F u5, ⟨p', sd, H, ch, hd3, some ⟨sb, so, none⟩, cs, nx3.set n 0, R', c', ?_, HT3.out, HSD.out, hm1, hm2, ?_⟩, fun j hf => ?_, HO5.out.trans (hof.mono fun _ _ hf => Or.inl hf)⟩
  · rw [HFR.out]; exact hfin
  · have h1 := frees_len (l.set n zeroN)
    rw [HFR.out, List.length_set] at h1
    omega
  · rcases hf with hf | hf
    · exact Or.inl hf
    · exact Or.inr (Nat.le_trans hz5 hf)
end
end Go.Proofs.Ytmhbfplpodikiaa.Inl
