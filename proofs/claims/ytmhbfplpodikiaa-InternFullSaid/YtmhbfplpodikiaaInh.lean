/- Proves what the method add of a table returns and leaves: a new name with its number. Conditions: as each theorem names them. -/
import Derived.Test.YtmhbfplpodikiaaIng
namespace Go.Proofs.Ytmhbfplpodikiaa.Ag
open Go.RowKit Ap Mi Nw Rg Aa Ai Hm Ina Inb Inc Ind Ine Inf Ing
/-- A table with its list. -/
def St (F : Nat → Prop) (w : World) (g : Nat) (m : Int) (l : List Nr) : Prop := ∃ p sd H ch hd S cs nx R cf, Lo F p w g m sd H ch hd S cs l nx R cf (frees l) ∧ Tb sd l ⟨hd, nx⟩ ∧ U64 sd ∧ 1 ≤ m ∧ m ≤ 65536 ∧ (cnt l : Int) ≤ m
/-- What a call leaves that changes the table. -/
def Gave (F : Nat → Prop) (w w' : World) (g : Nat) (m : Int) (l : List Nr) : Prop := ∃ F', St F' w' g m l ∧ (∀ j, F' j → More F w j) ∧ Only F w w'
section
variable {F F' : Nat → Prop} {w w' : World} {g : Nat} {m : Int} {l : List Nr}
theorem St.only (h : St F w g m l) (ho : Only F' w w') (hn : ∀ j, F j → ¬ F' j) : St F w' g m l := by
  obtain ⟨p, sd, H, ch, hd, S, cs, nx, R, cf, h1, h2⟩ := h
  exact ⟨p, sd, H, ch, hd, S, cs, nx, R, cf, h1.only ho hn, h2⟩
theorem St.lt (h : St F w g m l) : g < w.heap.size := by
  obtain ⟨p, sd, H, ch, hd, S, cs, nx, R, cf, h1, h2⟩ := h
  exact h1.lt
theorem St.mono (h : St F w g m l) (hF : ∀ j, j < w.heap.size → F j → F' j) : St F' w g m l := by
  obtain ⟨p, sd, H, ch, hd, S, cs, nx, R, cf, h1, h2⟩ := h
  exact ⟨p, sd, H, ch, hd, S, cs, nx, R, cf, h1.mono hF, h2⟩
theorem St.tight (h : St F w g m l) : St (fun j => F j ∧ j < w.heap.size) w g m l := h.mono (fun _ hj hf => ⟨hf, hj⟩)
theorem St.drewN (h : St F w g m l) (n : Nat) : St F (w.drewN n) g m l := h.only ((Only.refl (fun _ => False) w).drewN n) (fun _ _ hf => hf)
theorem St.downto {B : Nat} (h : St F w g m l) (hb : Below B w w') (hB : w.heap.size ≤ B) : St F w' g m l := h.only (Only.of_below hb hB (fun _ => False)) (fun _ _ hf => hf)
theorem St.below (h : St F w g m l) (hb : Below w.heap.size w w') : St F w' g m l := h.downto hb (Nat.le_refl _)
theorem St.len (h : St F w g m l) : l.length ≤ 65536 := by
  obtain ⟨p, sd, H, ch, hd, S, cs, nx, R, cf, h1, h2, _⟩ := h
  have a : l.length ≤ hd.length := h2.le
  have b : hd.length ≤ 65536 := h2.mx
  omega
theorem St.most (h : St F w g m l) : 1 ≤ m ∧ m ≤ 65536 := by
  obtain ⟨p, sd, H, ch, hd, S, cs, nx, R, cf, _, _, _, h1, h2, _⟩ := h
  exact ⟨h1, h2⟩
theorem St.fine (h : St F w g m l) : cnt l ≤ 65536 := by
  have h1 := cnt_le l
  have h2 := h.len
  omega
theorem gave_same (h : St F w' g m l) (ho : Only F w w') : Gave F w w' g m l := ⟨F, h, fun _ hf => Or.inl hf, ho⟩
end
end Go.Proofs.Ytmhbfplpodikiaa.Ag
namespace Go.Proofs.Ytmhbfplpodikiaa.Inh
open Go.RowKit Ap Mi Nw Rg Aa Ai Hm Ina Inb Inc Ind Ine Inf Ing Ag

set_option maxRecDepth 100000 in
set_option maxHeartbeats 400000 in
theorem clone_any (k : ByteArray) (hk : k.size ≤ 1000000) (w : World) : Calls Try.prog 48 #[.string k] w fun e w' => e = .returned (.string k) ∧ Below w.heap.size w w' := by
  have HC := Lib.hid (Try.stringslite_Clone k w (by omega))
  go_enter Try.func48, Try.ntmps48
  go_wp2_with fail
  refine HC.out.mono ?_
  rintro e w1 ⟨rfl, hb⟩
  have HB := Lib.hid hb
  clear hb HC
  go_wp2_with fail
  go_ret
  exact ⟨rfl, HB.out⟩
section
variable {F F' : Nat → Prop} {p : Nat → Nat} {w w' : World} {g : Nat} {m sd : Int} {H S R : Option Addr} {ch cs cf : Nat} {hd nx : List Int} {l : List Nr} {fr : List Nat}
/-- What take leaves. -/
structure Took (F : Nat → Prop) (w : World) (g : Nat) (m sd : Int) (H : Option Addr) (ch : Nat) (hd : List Int) (l : List Nr) (nx : List Int) (w' : World) (p' : Nat → Nat) (S' : Option Addr) (cs' : Nat) (l1 : List Nr) (nx1 : List Int) (R' : Option Addr) (cf' : Nat) : Prop where
  lo : Lo (More F w) p' w' g m sd H ch hd S' cs' l1 nx1 R' cf' (frees l).tail
  on : Only F w w'
  lt : low l < l1.length
  pu : ∀ x, l1.set (low l) x = putAt l (low l) x
  nx : ∀ i, i < nx.length → nx1.getD i 0 = nx.getD i 0
theorem take_any (h : Lo F p w g m sd H ch hd S cs l nx R cf (frees l)) (hl : l.length ≤ 1000000) :
    Calls Try.prog 47 #[.pointer (some ⟨g, 0, none⟩)] w fun e w' => e = .returned (.int .i64 (low l : Int)) ∧ ∃ p' S' cs' l1 nx1 R' cf', Took F w g m sd H ch hd l nx w' p' S' cs' l1 nx1 R' cf' := by
  rcases frees_low (l := l) with ⟨h1, h2⟩ | ⟨r, h1, h2⟩
  · rw [h1] at h
    refine (take_grow h hl).mono ?_
    rintro e w' ⟨rfl, ⟨p', S', cs', hL⟩, hO⟩
    refine ⟨by rw [h2], p', S', cs', _, _, R, cf, ⟨by rw [h1]; exact hL, hO, by rw [h2, List.length_append]; simp, fun x => ?_, fun i hi => ?_⟩⟩
    · unfold putAt
      rw [if_neg (by omega), h2, List.set_append_right _ _ (Nat.le_refl _), Nat.sub_self]; rfl
    · rw [List.getD_eq_getElem?_getD, List.getD_eq_getElem?_getD, List.getElem?_append_left hi]
  · have hlen : r.length ≤ 1000000 := by
      have h3 := frees_len l
      rw [h1] at h3; simp at h3; omega
    rw [h1] at h
    refine (take_free h hlen).mono ?_
    rintro e w' ⟨rfl, hL, hO⟩
    exact ⟨rfl, p, S, cs, l, nx, _, _, ⟨by rw [h1]; exact hL.mono (fun _ _ hf => Or.inl hf), hO, h2, fun x => by unfold putAt; rw [if_pos h2], fun _ _ => rfl⟩⟩
set_option maxRecDepth 100000 in
set_option maxHeartbeats 400000 in
theorem add_full (h : Lo F p w g m sd H ch hd S cs l nx R cf (frees l)) (hl : l.length ≤ 1000000) (hc : (cnt l : Int) = m) (k : ByteArray) :
    Calls Try.prog 38 #[.pointer (some ⟨g, 0, none⟩), .string k] w fun e w' => e = .returned (.tuple #[.int .i64 0, .int .i64 7]) ∧ Below w.heap.size w w' := by
  have HC : Hid (∀ q, Calls Try.prog 42 #[.pointer (some ⟨g, 0, none⟩)] (w.drewN q) fun e w' => e = .returned (.int .i64 (cnt l : Int)) ∧ ∃ n, w' = (w.drewN q).drewN n) := fun q => count_any (h.drewN q) (frees_len l) hl
  obtain ⟨c0, _⟩ := Blk.five h.blk
  have hb : ((cnt l : Int) == m) = true := by simpa using hc
  have lg := h.lt
  clear h hc
  go_enter Try.func38, Try.ntmps38
  go_wp2_with fail
  go_quiet ((go_at_call 42; exact Calls.quiet_of (HC.out _)))
  go_wp2_with fail
  go_ret2
  exact ⟨rfl, quiet_drew rfl⟩
set_option maxRecDepth 100000 in
set_option maxHeartbeats 2000000 in
theorem add_new (h : Lo F p w g m sd H ch hd S cs l nx R cf (frees l)) (ht : Tb sd l ⟨hd, nx⟩) (hsd : U64 sd) (hm1 : 1 ≤ m) (hm2 : m ≤ 65536) (hc : (cnt l : Int) < m) {k : ByteArray} (hk : okN k) (hf : fnd l k = none) :
    Calls Try.prog 38 #[.pointer (some ⟨g, 0, none⟩), .string k] w fun e w' => e = .returned (.tuple #[.int .i64 (low l : Int), .int .i64 0]) ∧ Gave F w w' g m (putAt l (low l) ⟨k, 1⟩) := by
  have hle : l.length ≤ 1000000 := by have h1 : l.length ≤ hd.length := ht.le; have h2 : hd.length ≤ 65536 := ht.mx; omega
  have HC : Hid (∀ q, Calls Try.prog 42 #[.pointer (some ⟨g, 0, none⟩)] (w.drewN q) fun e w' => e = .returned (.int .i64 (cnt l : Int)) ∧ ∃ n, w' = (w.drewN q).drewN n) := fun q => count_any (h.drewN q) (frees_len l) hle
  obtain ⟨c0, _⟩ := Blk.five h.blk
  have hb : ((cnt l : Int) == m) = false := by rw [beq_eq_false_iff_ne]; omega
  have lg := h.lt
  have HT := Lib.hid (fun q => take_any (h.drewN q) hle)
  have HTB := Lib.hid ht; have HSD := Lib.hid hsd; have HK := Lib.hid hk; have HF := Lib.hid hf
  have hcl := low_le l
  clear h ht hsd hk hf
  go_enter Try.func38, Try.ntmps38
  go_wp2_with fail
  go_quiet ((go_at_call 42; exact Calls.quiet_of (HC.out _)))
  go_wp2_with fail
  refine (HT.out _).mono ?_
  rintro e w1 ⟨rfl, p1, S1, cs1, l1, nx1, R1, cf1, hT⟩
  have HT1 := Lib.hid hT
  obtain ⟨c0, c1, c2, c3, c4⟩ := Blk.five hT.lo.blk
  obtain ⟨sb, so, hS, hsl, hsF, hsp, e0, e1, e2, f0, f1, f2⟩ := hT.lo.slot hT.lt
  have i1 : (low l : Int) < (l1.length : Int) := by have := hT.lt; omega
  have hS1 := Lib.hid hS
  rw [hS] at c3
  clear hT HC HT hS
  go_wp2_with fail
  have HW : Hid (∃ q, w.drewN nq = w.drewN q) := ⟨nq, rfl⟩
  have HL1 : Hid (Lo (More F w) p1 w1.drew g m sd H ch hd (some ⟨sb, so, none⟩) cs1 l1 nx1 R1 cf1 (frees l).tail) := by
    have h := HT1.out.lo.drew; rw [hS1.out] at h; exact h
  have HO1 : Hid (Only F w w1.drew) := ((Only.refl F w).drewN nq).trans (HT1.out.on.drew.mono fun _ _ hf => Or.inl hf)
  have hSd : w1.drew.cell? ⟨g, 3, none⟩ = some (.slice (some ⟨sb, so, none⟩) l1.length cs1) := c3
  have HLT := Lib.hid HT1.out.lt; have HPU := Lib.hid HT1.out.pu; have HNX := Lib.hid HT1.out.nx
  have hkz : k.size ≤ 1000000 := by have := HK.out.2; omega
  clear HT1 HW c0 c1 c2 c4 e0 e1 e2 f0 f1 f2 hS1 hsl
  refine wp_region_noPanic ?_
  refine wp_region_G 9 (fun v => v.cell? ⟨g, 3, none⟩ = some (.slice (some ⟨sb, so, none⟩) l1.length cs1)) (by kernel_rfl) ?_
  generalize w1.drew = u1 at HL1 HO1 hSd ⊢
  refine wpAnyG_take (i := 0) (oi := ⟨some 16, _, _, _, _, _⟩) (v := ?_) rfl (by kernel_rfl) (by kernel_rfl) (by kernel_rfl) (by kernel_rfl) (by kernel_rfl) (fun _ _ _ h => h) (Or.inl ⟨by rfl, ?_⟩) (hSd) ?_
  rotate_left
  · intro w hSw; go_simp; first | done | with_reducible rfl
  try simp only [Act.put, List.setIfInBounds_toArray, List.set_cons_zero, List.set_cons_succ]
  refine wpAnyG_take (i := 1) (oi := ⟨some 17, _, _, _, _, _⟩) (v := ?_) rfl (by kernel_rfl) (by kernel_rfl) (by kernel_rfl) (by kernel_rfl) (by kernel_rfl) (fun _ _ _ h => h) (Or.inl ⟨by rfl, ?_⟩) (hSd) ?_
  rotate_left
  · intro w hSw; go_simp; first | done | with_reducible rfl
  try simp only [Act.put, List.setIfInBounds_toArray, List.set_cons_zero, List.set_cons_succ]
  refine wpAnyG_take (i := 2) (oi := ⟨some 18, _, _, _, _, _⟩) (v := ?_) rfl (by kernel_rfl) (by kernel_rfl) (by kernel_rfl) (by kernel_rfl) (by kernel_rfl) (fun _ _ _ h => h) (Or.inl ⟨by rfl, ?_⟩) (hSd) ?_
  rotate_left
  · intro w hSw; go_simp; first | done | with_reducible rfl
  try simp only [Act.put, List.setIfInBounds_toArray, List.set_cons_zero, List.set_cons_succ]
  refine wpAnyG_take (i := 3) (oi := ⟨some 19, _, _, _, _, _⟩) (v := ?_) rfl (by kernel_rfl) (by kernel_rfl) (by kernel_rfl) (by kernel_rfl) (by kernel_rfl) (fun _ _ _ h => h) (Or.inl ⟨by rfl, ?_⟩) (hSd) ?_
  rotate_left
  · intro w hSw; go_simp; first | done | with_reducible rfl
  try simp only [Act.put, List.setIfInBounds_toArray, List.set_cons_zero, List.set_cons_succ]
  refine wpAnyG_take (i := 4) (oi := ⟨some 20, _, _, _, _, _⟩) (v := ?_) rfl (by kernel_rfl) (by kernel_rfl) (by kernel_rfl) (by kernel_rfl) (by kernel_rfl) (fun _ _ _ h => h) (Or.inl ⟨by rfl, ?_⟩) (hSd) ?_
  rotate_left
  · intro w hSw; go_simp; first | done | with_reducible rfl
  try simp only [Act.put, List.setIfInBounds_toArray, List.set_cons_zero, List.set_cons_succ]
  refine wpAnyG_take (i := 5) (oi := ⟨some 21, _, _, _, _, _⟩) (v := ?_) rfl (by kernel_rfl) (by kernel_rfl) (by kernel_rfl) (by kernel_rfl) (by kernel_rfl) (fun _ _ _ h => h) (Or.inl ⟨by rfl, ?_⟩) (hSd) ?_
  rotate_left
  · intro w hSw; go_simp; first | done | with_reducible rfl
  try simp only [Act.put, List.setIfInBounds_toArray, List.set_cons_zero, List.set_cons_succ]
  refine wpAnyG_ready (rs := [6]) (by kernel_rfl) (by simp) ?_
  refine AllReadyG.cons (o := ⟨some 22, _, _, _, _, _⟩) rfl (fun K hK => ?_) AllReadyG.nil
  go_simp
  refine (clone_any k hkz _).mono ?_
  rintro _ u2 ⟨rfl, hb⟩
  have HL2 := Lib.hid (HL1.out.below hb (Nat.le_refl _))
  have HO2 : Hid (Only F w u2) := HO1.out.trans (Only.of_below hb (Nat.le_refl _) _)
  obtain ⟨_, _, _, c3, _⟩ := Blk.five HL2.out.blk
  obtain ⟨sb2, so2, hS, _, _, _, e0, e1, e2, f0, f1, f2⟩ := HL2.out.slot HLT.out
  injection hS with hS
  injection hS with hS1 hS2
  subst hS1
  subst hS2
  clear hb
  refine hK.out _ _ (fun _ => c3) ?_
  clear hK K
  try simp only [Act.put, List.setIfInBounds_toArray, List.set_cons_zero, List.set_cons_succ]
  refine wpAnyG_take (i := 7) (oi := ⟨some 23, _, _, _, _, _⟩) (v := ?_) rfl (by kernel_rfl) (by kernel_rfl) (by kernel_rfl) (by kernel_rfl) (by kernel_rfl) (fun _ _ _ h => h) (Or.inl ⟨by rfl, ?_⟩) (c3) ?_
  rotate_left
  · intro w hSw; go_simp; first | done | with_reducible rfl
  try simp only [Act.put, List.setIfInBounds_toArray, List.set_cons_zero, List.set_cons_succ]
  refine wpAnyG_take (i := 8) (oi := ⟨some 24, _, _, _, _, _⟩) (v := ?_) rfl (by kernel_rfl) (by kernel_rfl) (by kernel_rfl) (by kernel_rfl) (by kernel_rfl) (fun _ _ _ h => h) (Or.inl ⟨by rfl, ?_⟩) (c3) ?_
  rotate_left
  · intro w hSw; go_simp; first | done | with_reducible rfl
  try simp only [Act.put, List.setIfInBounds_toArray, List.set_cons_zero, List.set_cons_succ]
  refine wpAnyG_ready (rs := [9]) (by kernel_rfl) (by simp) ?_
  refine AllReadyG.cons (o := ⟨none, _, _, _, _, _⟩) rfl (fun K hK => ?_) AllReadyG.nil
  go_simp
  refine hK.out _ _ (fun h => absurd h (by omega)) ?_
  clear hK K
  try simp only [Act.put, List.setIfInBounds_toArray, List.set_cons_zero, List.set_cons_succ]
  refine wpAnyG_done (by kernel_rfl) ?_ _
  refine NoPanic.normal ?_
  obtain ⟨u3, hu3⟩ : ∃ u3, u3 = ((u2.setCell ⟨sb, so + low l * 3, none⟩ (.string k)).setCell ⟨sb, so + low l * 3 + 1, none⟩ (.int .i64 1)).setCell ⟨sb, so + low l * 3 + 2, none⟩ (.int .i64 0) := ⟨_, rfl⟩
  obtain ⟨L, hL⟩ : ∃ L, L = putAt l (low l) ⟨k, 1⟩ := ⟨_, rfl⟩
  obtain ⟨N, hN⟩ : ∃ N, N = nx1.set (low l) 0 := ⟨_, rfl⟩
  have hsbF : More F w sb := by assumption
  have HL3 : Hid (Lo (More F w) p1 u3 g m sd H ch hd (some ⟨sb, so, none⟩) cs1 L N R1 cf1 (frees l).tail) := by
    have h := HL2.out.whole HLT.out ⟨k, 1⟩ 0
    rw [HPU.out, ← hL, ← hN] at h
    rw [hu3]; exact h
  have HO3 : Hid (Only F w u3) := by
    show Only F w u3
    rw [hu3]
    exact ((HO2.out.setCell (ad := ⟨sb, so + low l * 3, none⟩) hsbF _).setCell (ad := ⟨sb, so + low l * 3 + 1, none⟩) hsbF _).setCell (ad := ⟨sb, so + low l * 3 + 2, none⟩) hsbF _
  have h01 : (0 : Int) < (⟨k, 1⟩ : Nr).r := by show (0 : Int) < 1; omega
  have HMI : Hid (Mid sd L (low l) ⟨hd, N⟩) := by
    show Mid _ _ _ _
    rw [hL]
    refine HTB.out.mid h01 (by rw [← hL]; exact HL3.out.nl) (fun i hi hne => ?_)
    rw [hN, getD_set_other (fun e => hne e.symm)]
    exact HNX.out i hi
  have hnk : nk L (low l) = k := by rw [hL]; exact nk_put_same hcl _
  have hLl : low l < L.length := by rw [hL]; exact putAt_lt hcl _
  have hfr : frees L = (frees l).tail := by rw [hL]; exact frees_put h01
  have hcn : cnt L = cnt l + 1 := by rw [hL]; exact cnt_put h01
  have hpw := HMI.out.pw
  have HCH := Lib.hid (chain_any HL3.out HSD.out hpw hLl (by rw [hnk]; exact hkz))
  have HPS := Lib.hid HMI.out.push
  rw [← hu3]
  have HLL := Lib.hid hL; have HFR := Lib.hid hfr; have HCN := Lib.hid hcn; have HPW := Lib.hid hpw
  clear hu3 hL hN hsbF h01 hnk hfr hcn hpw HL3 HMI HL2 HL1 HO2 HO1 hSd e0 e1 e2 f0 f1 f2 c3 HNX HPU HLT i1
  go_wp2_with fail
  refine HCH.out.mono ?_
  rintro e u4 ⟨rfl, hl4, ho4⟩
  have HL4 := Lib.hid hl4
  have HO4 : Hid (Only F w u4) := HO3.out.trans (ho4.mono (fun j _ hf => hf.1))
  obtain ⟨B, hB⟩ : ∃ B, B = bkt sd hd.length (nk L (low l)) := ⟨_, rfl⟩
  have h4l : (hd.set B (low l : Int)).length = hd.length := List.length_set
  rw [← hB] at HL4
  have HPS4 : Hid (Chs ⟨hd.set B (low l : Int), N.set (low l) (hd.getD B 0)⟩ (fun i => bkt sd hd.length (nk L i)) (Inb.lv L)) := by show Chs _ _ _; rw [hB]; exact HPS.out
  obtain ⟨hd4, hhd⟩ : ∃ x, x = hd.set B (low l : Int) := ⟨_, rfl⟩
  obtain ⟨nx4, hnx⟩ : ∃ x, x = N.set (low l) (hd.getD B 0) := ⟨_, rfl⟩
  rw [← hhd] at HL4 HPS4 h4l
  rw [← hnx] at HL4 HPS4
  have H4L := Lib.hid h4l
  have hnL := HL4.out.nl
  have hfl := frees_len L
  rw [HFR.out, HCN.out] at hfl
  have hLb : L.length ≤ 1000000 := by
    have h1 := (putAt_len l (low l) ⟨k, 1⟩).2
    rw [← HLL.out] at h1
    have h2 : l.length ≤ hd.length := HTB.out.le
    have h3 : hd.length ≤ 65536 := HTB.out.mx
    omega
  obtain ⟨C, hC⟩ : ∃ C, C = cnt l + 1 := ⟨_, rfl⟩
  rw [← hC] at hfl
  have HC4 : Hid (∀ q, Calls Try.prog 42 #[.pointer (some ⟨g, 0, none⟩)] (u4.drewN q) fun e w' => e = .returned (.int .i64 (C : Int)) ∧ ∃ n, w' = (u4.drewN q).drewN n) := fun q => count_any (HL4.out.drewN q) hfl hLb
  have HC := Lib.hid hC
  have hCb : C ≤ 65536 := by omega
  have HLb := Lib.hid hLb
  obtain ⟨_, _, c2, _, _⟩ := Blk.five HL4.out.blk
  rw [h4l] at c2
  clear HCH HPS hl4 ho4 hB h4l hhd hnx hnL hfl hC hLb HO3
  by_cases hgr : hd.length < C
  · have i2 : (hd.length : Int) < (C : Int) := by omega
    go_wp2_with fail
    go_quiet ((go_at_call 42; exact Calls.quiet_of (HC4.out _)))
    have hal : ∀ i, i < L.length → Inb.lv L i := by
      have h1 := (putAt_len l (low l) ⟨k, 1⟩).2
      rw [← HLL.out] at h1
      have h2 : l.length ≤ hd.length := HTB.out.le
      exact all_live (N := hd.length) (by omega) (by rw [HCN.out, ← HC.out]; exact hgr)
    have hiv : Iv L := by rw [HLL.out]; exact put_iv HTB.out.iv HK.out HF.out
    have hkn : ∀ i, i < L.length → (nk L i).size ≤ 1000000 := fun i hi => by
      have h1 := (hiv.ok _ (List.getElem_mem hi) ((lv_at hi).1 (hal i hi))).2
      rw [nk_at hi]; omega
    have hN2 : hd.length ≤ 32768 := half_pow HPW.out (by omega)
    have HG := Lib.hid (grow_any (HL4.out.drewN nq) HSD.out (by rw [H4L.out]; exact HPW.out) (by rw [H4L.out]; exact hN2) HLb.out hkn)
    clear hal hiv hkn c2
    go_wp2_with fail
    refine HG.out.mono ?_
    rintro e u5 ⟨rfl, p5, H5, ch5, hd5, nx5, hl5, hlen, hch, ho5⟩
    have HL5 := Lib.hid hl5; have HLE := Lib.hid hlen; have HCC := Lib.hid hch
    have HO5 : Hid (Only F w u5) := (HO4.out.drewN nq).trans ho5
    have hz4 := HO4.out.size
    clear hl5 hlen hch ho5 HG
    go_wp2_with fail
    go_ret2
    refine ⟨rfl, More (More F w) (u4.drewN nq), ⟨p5, sd, H5, ch5, hd5, some ⟨sb, so, none⟩, cs1, nx5, R1, cf1, ?_, ?_, HSD.out, hm1, hm2, ?_⟩, fun j hf => ?_, HO5.out⟩
    · rw [← HLL.out, HFR.out]; exact HL5.out
    · have h1 := HTB.out.grown HK.out HF.out (s' := ⟨hd5, nx5⟩) (by rw [← HLL.out, HCN.out, ← HC.out]; exact hgr) hN2 (by have h2 := HLE.out; rw [H4L.out] at h2; exact h2) (by rw [← HLL.out]; exact HL5.out.nl) (by rw [← HLL.out]; have h2 := HCC.out; rw [H4L.out] at h2; exact h2)
      rw [← HLL.out] at h1 ⊢
      exact h1
    · rw [← HLL.out, HCN.out]; omega
    · rcases hf with hf | hf
      · exact hf
      · exact Or.inr (Nat.le_trans hz4 hf)
  · have i2 : ¬ (hd.length : Int) < (C : Int) := by omega
    have hmn : hd.length < 100000000 := by have h3 : hd.length ≤ 65536 := HTB.out.mx; omega
    go_wp2_with fail
    go_quiet ((go_at_call 42; exact Calls.quiet_of (HC4.out _)))
    go_wp2_with fail
    go_ret2
    refine ⟨rfl, More F w, ⟨p1, sd, H, ch, hd4, some ⟨sb, so, none⟩, cs1, nx4, R1, cf1, ?_, ?_, HSD.out, hm1, hm2, ?_⟩, fun _ hf => hf, HO4.out.drewN _⟩
    · rw [← HLL.out, HFR.out]; exact HL4.out.drewN _
    · have h1 := HTB.out.put HK.out HF.out (s' := ⟨hd4, nx4⟩) (by rw [← HLL.out, HCN.out, ← HC.out]; show C ≤ hd.length; omega) H4L.out (by rw [← HLL.out]; exact HL4.out.nl) (by rw [← HLL.out]; exact HPS4.out)
      exact h1
    · rw [← HLL.out, HCN.out]; omega
end
end Go.Proofs.Ytmhbfplpodikiaa.Inh
