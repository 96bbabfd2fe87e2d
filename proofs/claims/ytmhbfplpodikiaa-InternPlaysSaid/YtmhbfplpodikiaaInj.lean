/- Proves what the method Add of a table returns and leaves. Conditions: as each theorem names them. -/
import Derived.Test.YtmhbfplpodikiaaIni
namespace Go.Proofs.Ytmhbfplpodikiaa.Inj
open Go.RowKit Ap Mi Nw Rg Aa Ai Hm Ina Inb Inc Ind Ine Inf Ing Inh Ini Ag

section
variable {F F' : Nat → Prop} {p : Nat → Nat} {w w' : World} {g : Nat} {m sd : Int} {H S R : Option Addr} {ch cs cf : Nat} {hd nx : List Int} {l : List Nr} {fr : List Nat}
theorem lv_count {l : List Nr} {i : Nat} (hi : i < l.length) (hr : 0 < l[i].r) {r : Int} (h0 : 0 < r) (j : Nat) : lv (l.set i { l[i] with r := r }) j ↔ lv l j := by
  unfold lv
  rw [getD_set_n hi, List.length_set]
  by_cases q : j = i
  · subst q; rw [if_pos rfl, getD_at hi]; simp [h0, hr]
  · rw [if_neg q]
theorem frees_count {l : List Nr} {i : Nat} (hi : i < l.length) (hr : 0 < l[i].r) {r : Int} (h0 : 0 < r) : frees (l.set i { l[i] with r := r }) = frees l :=
  sorted_ext (frees_sorted _) (frees_sorted _) (fun j => by rw [mem_frees, mem_frees, lv_count hi hr h0, List.length_set])
theorem cnt_count {l : List Nr} {i : Nat} (hi : i < l.length) (hr : 0 < l[i].r) {r : Int} (h0 : 0 < r) : cnt (l.set i { l[i] with r := r }) = cnt l := by
  have h1 := frees_len (l.set i { l[i] with r := r })
  have h2 := frees_len l
  rw [frees_count hi hr h0, List.length_set] at h1
  omega
/-- What Add leaves. -/
def addPost (F : Nat → Prop) (w : World) (g : Nat) (m : Int) (l : List Nr) (k : ByteArray) : Ending → World → Prop := fun q w' => q = .returned (.tuple #[.int .i64 (addV m l k), .int .i64 (addE m l k)]) ∧ Gave F w w' g m (addL m l k)
set_option maxRecDepth 100000 in
set_option maxHeartbeats 2000000 in
theorem add_st (h : St F w g m l) (hf : Fine 2147483646 l) (k : ByteArray) (hk : k.size ≤ 1000000) :
    Calls Try.prog 18 #[.pointer (some ⟨g, 0, none⟩), .string k] w (addPost F w g m l k) := by
  have hlen := h.len
  have lg := h.lt
  obtain ⟨p, sd, H, ch, hd, S, cs, nx, R, cf, h1, ht, hsd, hm1, hm2, hc⟩ := h
  have HL := Lib.hid h1; have HT := Lib.hid ht; have HSD := Lib.hid hsd
  have HFD := Lib.hid (find_any h1 ht hsd hm1 k hk)
  have HST : Hid (∀ w', (∃ q, w' = w.drewN q) → St F w' g m l) := fun w' hq => ⟨p, sd, H, ch, hd, S, cs, nx, R, cf, lo_draws h1 hq, ht, hsd, hm1, hm2, hc⟩
  unfold addPost
  unfold rPost at HFD
  rcases add_cases m l k with ⟨hno, e1, e2, e3⟩ | ⟨hok, hfn, hmx, e1, e2, e3⟩ | ⟨hok, hfn, hmx, e1, e2, e3⟩ | ⟨i, hi, hok, hfs, e1, e2, e3⟩
  · obtain ⟨f1, f2⟩ := find_no (l := l) hno
    rw [f1, f2] at HFD
    rw [e1, e2, e3]
    clear h1 ht hsd hno e1 e2 e3 f1 f2 hf
    go_enter Try.func18, Try.ntmps18
    go_wp2_with fail
    refine HFD.out.mono ?_
    rintro e w1 ⟨rfl, hq⟩
    have HQ := Lib.hid hq
    clear hq
    go_wp2_with fail
    go_ret2
    exact ⟨rfl, gave_same (HST.out _ HQ.out) (only_draws F HQ.out)⟩
  · obtain ⟨f1, f2⟩ := find_none hok hfn
    rw [f1, f2] at HFD
    rw [e1, e2, e3]
    have HA := Lib.hid (fun w' (hq : ∃ q, w' = w.drewN q) => add_full (lo_draws h1 hq) (by omega) (by omega) k)
    clear h1 ht hsd hok hfn e1 e2 e3 f1 f2 hf
    go_enter Try.func18, Try.ntmps18
    go_wp2_with fail
    refine HFD.out.mono ?_
    rintro e w1 ⟨rfl, hq⟩
    have HQ := Lib.hid hq
    clear hq
    go_wp2_with fail
    refine (HA.out w1 HQ.out).mono ?_
    rintro e w2 ⟨rfl, hb⟩
    have HB := Lib.hid hb
    clear hb
    go_wp2_with fail
    go_ret2
    have h2 := HST.out _ HQ.out
    exact ⟨rfl, gave_same (h2.below HB.out) ((only_draws F HQ.out).trans (Only.of_below HB.out (Nat.le_refl _) _))⟩
  · obtain ⟨f1, f2⟩ := find_none hok hfn
    rw [f1, f2] at HFD
    rw [e1, e2, e3]
    have HA := Lib.hid (fun w' (hq : ∃ q, w' = w.drewN q) => add_new (lo_draws h1 hq) ht hsd hm1 hm2 hmx hok hfn)
    clear h1 ht hsd hok hfn e1 e2 e3 f1 f2 hf
    go_enter Try.func18, Try.ntmps18
    go_wp2_with fail
    refine HFD.out.mono ?_
    rintro e w1 ⟨rfl, hq⟩
    have HQ := Lib.hid hq
    clear hq
    go_wp2_with fail
    refine (HA.out w1 HQ.out).mono ?_
    rintro e w2 ⟨rfl, F2, hs2, hF2, ho2⟩
    have HS2 := Lib.hid hs2; have HF2 := Lib.hid hF2; have HO2 := Lib.hid ho2
    clear hs2 hF2 ho2
    go_wp2_with fail
    go_ret2
    have hz := (only_draws F HQ.out).size
    refine ⟨rfl, F2, HS2.out, fun j hj => ?_, (only_draws F HQ.out).trans (HO2.out.mono fun _ _ hf => Or.inl hf)⟩
    rcases HF2.out j hj with q | q
    · exact Or.inl q
    · exact Or.inr (Nat.le_trans hz q)
  · obtain ⟨f1, f2⟩ := find_some hok hfs
    rw [f1, f2] at HFD
    rw [e1, e2, e3]
    obtain ⟨_, hr, _⟩ := fnd_some hfs
    have hrm := (hf _ (List.getElem_mem hi)).2.1
    obtain ⟨sb, so, rfl, hsl, hsF, hsp, _, d1, _, _, ff1, _⟩ := h1.slot hi
    obtain ⟨_, _, _, c3, _⟩ := Blk.five h1.blk
    obtain ⟨r, hre⟩ : ∃ r, r = l[i].r := ⟨_, rfl⟩
    rw [getD_at hi, ← hre] at d1
    rw [← hre] at hr hrm
    have i1 : (i : Int) < (l.length : Int) := by omega
    have i2 : (r == 2147483647) = false := by rw [beq_eq_false_iff_ne]; omega
    have HRE := Lib.hid hre
    rw [modify_set hi, ← hre]
    clear h1 ht hsd hok hfs e1 e2 e3 f1 f2 hf hre
    go_enter Try.func18, Try.ntmps18
    go_wp2_with fail
    refine HFD.out.mono ?_
    rintro e w1 ⟨rfl, hq⟩
    have HQ := Lib.hid hq
    have b3 : w1.cell? ⟨g, 3, none⟩ = some (.slice (some ⟨sb, so, none⟩) l.length cs) := by obtain ⟨q, rfl⟩ := hq; exact c3
    have b1 : w1.cell? ⟨sb, so + i * 3 + 1, none⟩ = some (.int .i64 r) := by obtain ⟨q, rfl⟩ := hq; exact d1
    have b2 : w1.frozen? ⟨sb, so + i * 3 + 1, none⟩ = false := by obtain ⟨q, rfl⟩ := hq; exact ff1
    clear hq c3 d1 ff1
    go_wp2_with fail
    go_ret2
    have hL1 := lo_draws HL.out HQ.out
    have hL2 := hL1.refs hi (r + 1)
    refine ⟨rfl, gave_same ⟨p, sd, H, ch, hd, some ⟨sb, so, none⟩, cs, nx, R, cf, ?_, HT.out.count hi (by rw [← HRE.out]; exact hr) (by omega) (by omega), HSD.out, hm1, hm2, ?_⟩ ((only_draws F HQ.out).put (ad := ⟨sb, so + i * 3 + 1, none⟩) hsF _)⟩
    · rw [frees_count hi (by rw [← HRE.out]; exact hr) (by omega)]
      exact hL2
    · rw [cnt_count hi (by rw [← HRE.out]; exact hr) (by omega)]; exact hc
end
end Go.Proofs.Ytmhbfplpodikiaa.Inj
