/- Proves that the law's known returns true: the chapter's examples. Conditions: as each theorem names them. -/
import Derived.Test.YtmhbfplpodikiaaAj
import Derived.Laws.MakeOwn
namespace Go.Proofs.Ytmhbfplpodikiaa.Ak
open Go.RowKit Ap Mi Nw Rg Aa Ab Ac Ad Ag Ah Ai Aj

def byV (v : List UInt8) : List Value := v.map fun b => .int .u8 (b.toNat : Int)
theorem byV_len (v : List UInt8) : (byV v).length = v.length := List.length_map _
theorem conv_rs {w : World} {A : Option Addr} {l : List UInt8} {n : Nat} (hn : n = l.length) (c : Nat) (h : Rs w 1 A n c (byV l)) : (convert 51 9 (.slice A n c)).run Try.prog w = .ok (.string ⟨l.toArray⟩) w := by
  subst hn
  by_cases h0 : l.length = 0
  · have e : l = [] := List.eq_nil_of_length_eq_zero h0
    subst e
    rw [run_convert_bytes_string w 51 9 5 A _ c Try.underlying51 Try.underlying5 Try.underlying9]
    cases A <;> rfl
  · have hg : ∀ k (hk : k < l.length), (byV l)[k]? = some (.int .u8 (l[k].toNat : Int)) := fun k hk => by unfold byV; rw [List.getElem?_map, List.getElem?_eq_getElem hk]; rfl
    obtain ⟨b, o, rfl, _, _⟩ := h.rd.at_ (hg 0 (by omega))
    exact run_convert_bytes_back (P := Try.prog) w 51 9 5 ⟨b, o, none⟩ c l Try.underlying51 Try.underlying5 Try.underlying9 fun j hj => by
      obtain ⟨b', o', e, _, hc⟩ := h.rd.at_ (hg j hj)
      injection e with e; injection e with e1 e2; subst e1; subst e2
      rw [Nw.add_lit]; exact hc
theorem make_row (n : Nat) (w : World) (h : n ≤ 1000000) : ∃ w1, (Instr.makeSlice 51 (.int .i64 (n : Int)) (.int .i64 (n : Int))).run Try.prog w = .ok (.slice (some ⟨w.heap.size, 0, none⟩) n n) w1 ∧ Rs w1 1 (some ⟨w.heap.size, 0, none⟩) n n (byV (List.replicate n 0)) ∧ Below w.heap.size w w1 ∧ w1.heap.size = w.heap.size + 1 := by
  have hi : (Try.prog.info? 5).map (fun i => (i.zero, i.size, i.bytes)) = some (some (.int .u8 0), 1, 1) := by kernel_rfl
  rw [Option.map_eq_some_iff] at hi
  obtain ⟨i, hi1, hi2⟩ := hi
  simp only [Prod.mk.injEq] at hi2
  obtain ⟨hz, hs, hb⟩ := hi2
  have hr := run_make (P := Try.prog) w 51 5 i (.int .u8 0) Try.underlying51 hi1 hz .i64 .i64 (n : Int) (n : Int) (by omega) (Int.le_refl _) (by rw [hb]; omega) (by omega)
  rw [Int.toNat_natCast, hs, Nat.mul_one] at hr
  refine ⟨_, hr, Rs.mine (mine_laid w _ _ _ n ?_ (by rw [byV_len]; simp) (by omega)), bnew _ _, by simp⟩
  refine List.ext_getElem (by rw [byV_len, Array.length_toList, size_madeCells]; simp) (fun j h1 h2 => ?_)
  simp [madeCells, byV, Value.cells, Nat.mod_one]
/-- A table that was made since w0. -/
def Kp (w0 w : World) (g : Nat) (m : Int) (l : List Nr) : Prop := ∃ F : Nat → Prop, St F w g m l ∧ (∀ j, F j → w0.heap.size ≤ j ∧ j < w.heap.size) ∧ Below w0.heap.size w0 w
section
variable {w0 w w1 : World} {g : Nat} {m : Int} {l : List Nr}
theorem Kp.bl (h : Kp w0 w g m l) : Below w0.heap.size w0 w := by obtain ⟨_, _, _, h⟩ := h; exact h
theorem Kp.below (h : Kp w0 w g m l) (hb : Below w.heap.size w w1) : Kp w0 w1 g m l := by
  obtain ⟨F, h1, h2, h3⟩ := h
  exact ⟨F, h1.below hb, fun j hj => ⟨(h2 j hj).1, Nat.lt_of_lt_of_le (h2 j hj).2 hb.size⟩, h3.trans (hb.mono h3.size)⟩
theorem kp_gave {F : Nat → Prop} (h2 : ∀ j, F j → w0.heap.size ≤ j ∧ j < w.heap.size) (h3 : Below w0.heap.size w0 w) (h : Gave F w w1 g m l) : Kp w0 w1 g m l := by
  obtain ⟨F', h4, h5, h6⟩ := h
  refine ⟨_, h4.tight, fun j hj => ⟨?_, hj.2⟩, h3.trans (h6.below (fun j hj => (h2 j hj).1) h3.size)⟩
  rcases h5 j hj.1 with h7 | h7
  · exact (h2 j h7).1
  · exact Nat.le_trans h3.size h7
theorem kp_new {m : Int} (hm : 1 ≤ m ∧ m ≤ 65536) (sd : Int) (hsd : 0 ≤ sd ∧ sd < 18446744073709551616) (w0 : World) : Calls Try.prog 9 #[.int .i64 m, .int .u64 sd] w0 (fun q w' => ∃ g, q = .returned (.tuple #[.pointer (some ⟨g, 0, none⟩), .int .i64 0]) ∧ Kp w0 w' g m []) :=
  (new_yes hm sd hsd w0).mono fun _ _ ⟨g, _, e, h1, h2, h3⟩ => ⟨g, e, _, h1.tight, fun j hj => ⟨h2 j hj.1, hj.2⟩, h3⟩
theorem kp_adds (h : Kp w0 w g m l) (hf : Fine 2147483646 l) (k : ByteArray) (hk : k.size ≤ 1000000) {v e : Int} {l' : List Nr} (hv : addV m l k = v ∧ addE m l k = e ∧ addL m l k = l') : Calls Try.prog 14 #[.pointer (some ⟨g, 0, none⟩), .string k, .int .i64 v, .int .i64 e] w (fun q w' => q = .returned (.bool true) ∧ Kp w0 w' g m l') := by
  obtain ⟨F, h1, h2, h3⟩ := h
  exact (adds_true h1 hf k hk hv.1 hv.2.1).mono fun _ _ ⟨e, hg⟩ => ⟨e, kp_gave h2 h3 (hv.2.2 ▸ hg)⟩
theorem kp_frees (h : Kp w0 w g m l) (n : Int) {v : Bool} {e : Int} {l' : List Nr} (hv : relB l n = v ∧ relE l n = e ∧ relL l n = l') : Calls Try.prog 16 #[.pointer (some ⟨g, 0, none⟩), .int .i64 n, .bool v, .int .i64 e] w (fun q w' => q = .returned (.bool true) ∧ Kp w0 w' g m l') := by
  obtain ⟨F, h1, h2, h3⟩ := h
  exact (frees_true h1 n hv.1 hv.2.1).mono fun _ _ ⟨e, hg⟩ => ⟨e, kp_gave h2 h3 (hv.2.2 ▸ hg)⟩
theorem kp_of (h : Kp w0 w g m l) : ∃ F, St F w g m l := by obtain ⟨F, h1, _⟩ := h; exact ⟨F, h1⟩
theorem kp_finds (h : Kp w0 w g m l) (k : ByteArray) (hk : k.size ≤ 1000000) {v e : Int} (hv : findV l k = v ∧ findE l k = e) : Calls Try.prog 22 #[.pointer (some ⟨g, 0, none⟩), .string k, .int .i64 v, .int .i64 e] w (fun q w' => q = .returned (.bool true) ∧ Kp w0 w' g m l) := by
  obtain ⟨F, h1⟩ := kp_of h
  exact (finds_true h1 k hk hv.1 hv.2).mono fun _ _ ⟨e, hb⟩ => ⟨e, h.below hb⟩
theorem kp_names (h : Kp w0 w g m l) (n : Int) {v : ByteArray} {e : Int} (hv : nameV l n = v ∧ nameE l n = e) : Calls Try.prog 23 #[.pointer (some ⟨g, 0, none⟩), .int .i64 n, .string v, .int .i64 e] w (fun q w' => q = .returned (.bool true) ∧ Kp w0 w' g m l) := by
  obtain ⟨F, h1⟩ := kp_of h
  exact (names_true h1 n hv.1 hv.2).mono fun _ _ ⟨e, hb⟩ => ⟨e, h.below hb⟩
theorem kp_refs (h : Kp w0 w g m l) (n : Int) {v e : Int} (hv : refsV l n = v ∧ nameE l n = e) : Calls Try.prog 24 #[.pointer (some ⟨g, 0, none⟩), .int .i64 n, .int .i64 v, .int .i64 e] w (fun q w' => q = .returned (.bool true) ∧ Kp w0 w' g m l) := by
  obtain ⟨F, h1⟩ := kp_of h
  exact (refs_true h1 n hv.1 hv.2).mono fun _ _ ⟨e, hb⟩ => ⟨e, h.below hb⟩
theorem kp_lens (h : Kp w0 w g m l) {n : Int} (hn : (cnt l : Int) = n) : Calls Try.prog 21 #[.pointer (some ⟨g, 0, none⟩), .int .i64 n, .int .i64 m] w (fun q w' => q = .returned (.bool true) ∧ Kp w0 w' g m l) := by
  obtain ⟨F, h1⟩ := kp_of h
  exact (lens_true h1 hn).mono fun _ _ ⟨e, hb⟩ => ⟨e, h.below hb⟩
theorem kp_list (h : Kp w0 w g m l) {L : List ByteArray} (hL : namesL l = L) : Calls Try.prog 25 #[.pointer (some ⟨g, 0, none⟩)] w (fun q w' => ∃ A c, q = .returned (.slice A L.length c) ∧ Rs w' 1 A L.length c (strs L) ∧ Kp w0 w' g m l) := by
  subst hL
  obtain ⟨F, h1⟩ := kp_of h
  exact (names_st h1).mono fun _ _ ⟨A, c, e, h2, hb⟩ => ⟨A, c, e, h2, h.below hb⟩
end
def t0 : List Nr := []
def t1 : List Nr := [⟨⟨#[114, 101, 100]⟩, 1⟩]
def t2 : List Nr := [⟨⟨#[114, 101, 100]⟩, 1⟩, ⟨⟨#[98, 108, 117, 101]⟩, 1⟩]
def t3 : List Nr := [⟨⟨#[114, 101, 100]⟩, 2⟩, ⟨⟨#[98, 108, 117, 101]⟩, 1⟩]
def t4 : List Nr := [⟨⟨#[114, 101, 100]⟩, 1⟩, ⟨⟨#[98, 108, 117, 101]⟩, 1⟩]
def t5 : List Nr := [⟨⟨#[]⟩, 0⟩, ⟨⟨#[98, 108, 117, 101]⟩, 1⟩]
def t6 : List Nr := [⟨⟨#[103, 114, 101, 101, 110]⟩, 1⟩, ⟨⟨#[98, 108, 117, 101]⟩, 1⟩]
def t7 : List Nr := [⟨⟨#[103, 114, 101, 101, 110]⟩, 1⟩, ⟨⟨#[98, 108, 117, 101]⟩, 1⟩, ⟨⟨#[103, 111, 108, 100]⟩, 1⟩]
theorem fine_of {l : List Nr} (h : (l.all fun x => decide (0 ≤ x.r ∧ x.r ≤ 2147483646 ∧ x.k.size ≤ 64)) = true) : Fine 2147483646 l := fun x hx => by
  have := List.all_eq_true.1 h x hx
  simpa using this
theorem f1 : addV 3 t0 ⟨#[114, 101, 100]⟩ = 0 ∧ addE 3 t0 ⟨#[114, 101, 100]⟩ = 0 ∧ addL 3 t0 ⟨#[114, 101, 100]⟩ = t1 := by first | decide +kernel | exact ⟨by decide +kernel, by decide +kernel, by kernel_rfl⟩ | kernel_rfl
theorem f2 : addV 3 t1 ⟨#[98, 108, 117, 101]⟩ = 1 ∧ addE 3 t1 ⟨#[98, 108, 117, 101]⟩ = 0 ∧ addL 3 t1 ⟨#[98, 108, 117, 101]⟩ = t2 := by first | decide +kernel | exact ⟨by decide +kernel, by decide +kernel, by kernel_rfl⟩ | kernel_rfl
theorem f3 : addV 3 t2 ⟨#[114, 101, 100]⟩ = 0 ∧ addE 3 t2 ⟨#[114, 101, 100]⟩ = 0 ∧ addL 3 t2 ⟨#[114, 101, 100]⟩ = t3 := by first | decide +kernel | exact ⟨by decide +kernel, by decide +kernel, by kernel_rfl⟩ | kernel_rfl
theorem f4 : refsV t3 (0) = 2 ∧ nameE t3 (0) = 0 := by decide +kernel
theorem f5 : relB t3 (0) = false ∧ relE t3 (0) = 0 ∧ relL t3 (0) = t4 := by first | decide +kernel | exact ⟨by decide +kernel, by decide +kernel, by kernel_rfl⟩ | kernel_rfl
theorem f6 : relB t4 (0) = true ∧ relE t4 (0) = 0 ∧ relL t4 (0) = t5 := by first | decide +kernel | exact ⟨by decide +kernel, by decide +kernel, by kernel_rfl⟩ | kernel_rfl
theorem f7 : findV t5 ⟨#[114, 101, 100]⟩ = 0 ∧ findE t5 ⟨#[114, 101, 100]⟩ = 9 := by decide +kernel
theorem f8 : addV 3 t5 ⟨#[103, 114, 101, 101, 110]⟩ = 0 ∧ addE 3 t5 ⟨#[103, 114, 101, 101, 110]⟩ = 0 ∧ addL 3 t5 ⟨#[103, 114, 101, 101, 110]⟩ = t6 := by first | decide +kernel | exact ⟨by decide +kernel, by decide +kernel, by kernel_rfl⟩ | kernel_rfl
theorem f9 : addV 3 t6 ⟨#[103, 111, 108, 100]⟩ = 2 ∧ addE 3 t6 ⟨#[103, 111, 108, 100]⟩ = 0 ∧ addL 3 t6 ⟨#[103, 111, 108, 100]⟩ = t7 := by first | decide +kernel | exact ⟨by decide +kernel, by decide +kernel, by kernel_rfl⟩ | kernel_rfl
theorem f10 : addV 3 t7 ⟨#[112, 105, 110, 107]⟩ = 0 ∧ addE 3 t7 ⟨#[112, 105, 110, 107]⟩ = 7 ∧ addL 3 t7 ⟨#[112, 105, 110, 107]⟩ = t7 := by first | decide +kernel | exact ⟨by decide +kernel, by decide +kernel, by kernel_rfl⟩ | kernel_rfl
theorem f11 : nameV t7 (2) = ⟨#[103, 111, 108, 100]⟩ ∧ nameE t7 (2) = 0 := by decide +kernel
theorem f12 : namesL t7 = [⟨#[98, 108, 117, 101]⟩, ⟨#[103, 111, 108, 100]⟩, ⟨#[103, 114, 101, 101, 110]⟩] := by first | decide +kernel | kernel_rfl
theorem f13 : (cnt t7 : Int) = 3 := by decide +kernel
theorem f14 : relB t7 (3) = false ∧ relE t7 (3) = 9 ∧ relL t7 (3) = t7 := by first | decide +kernel | exact ⟨by decide +kernel, by decide +kernel, by kernel_rfl⟩ | kernel_rfl
theorem f15 : relB t7 (-1) = false ∧ relE t7 (-1) = 9 ∧ relL t7 (-1) = t7 := by first | decide +kernel | exact ⟨by decide +kernel, by decide +kernel, by kernel_rfl⟩ | kernel_rfl
theorem f16 : nameV t7 (7) = ⟨#[]⟩ ∧ nameE t7 (7) = 9 := by decide +kernel
theorem f17 : addV 3 t7 ⟨#[]⟩ = 0 ∧ addE 3 t7 ⟨#[]⟩ = 2 ∧ addL 3 t7 ⟨#[]⟩ = t7 := by first | decide +kernel | exact ⟨by decide +kernel, by decide +kernel, by kernel_rfl⟩ | kernel_rfl
def k65 : ByteArray := ⟨(List.replicate 65 (0 : UInt8)).toArray⟩
theorem f18 : findV t7 k65 = 0 ∧ findE t7 k65 = 2 := by decide +kernel
set_option maxRecDepth 100000 in
set_option maxHeartbeats 4000000 in
theorem known_any (w0 : World) : Calls Try.prog 10 #[] w0 (boolTo true w0) := by
  unfold boolTo
  have HN := Lib.hid (kp_new (m := 3) (by omega) 1 (by omega) w0)
  go_enter Try.func10, Try.ntmps10
  go_wp2_with fail
  refine HN.out.mono ?_
  rintro q w1 ⟨g, rfl, hk⟩
  have K1 : Hid (Kp w0 w1 g 3 t0) := hk
  clear hk HN
  go_wp2_with fail
  refine (kp_adds K1.out (fine_of (by decide +kernel)) ⟨#[114, 101, 100]⟩ (by decide) f1).mono ?_
  rintro q w2 ⟨rfl, hk⟩
  have K2 := Lib.hid hk
  clear hk
  go_wp2_with fail
  refine (kp_adds K2.out (fine_of (by decide +kernel)) ⟨#[98, 108, 117, 101]⟩ (by decide) f2).mono ?_
  rintro q w3 ⟨rfl, hk⟩
  have K3 := Lib.hid hk
  clear hk
  go_wp2_with fail
  refine (kp_adds K3.out (fine_of (by decide +kernel)) ⟨#[114, 101, 100]⟩ (by decide) f3).mono ?_
  rintro q w4 ⟨rfl, hk⟩
  have K4 := Lib.hid hk
  clear hk
  go_wp2_with fail
  refine (kp_refs K4.out (0) f4).mono ?_
  rintro q w5 ⟨rfl, hk⟩
  have K5 := Lib.hid hk
  clear hk
  go_wp2_with fail
  refine (kp_frees K5.out (0) f5).mono ?_
  rintro q w6 ⟨rfl, hk⟩
  have K6 := Lib.hid hk
  clear hk
  go_wp2_with fail
  refine (kp_frees K6.out (0) f6).mono ?_
  rintro q w7 ⟨rfl, hk⟩
  have K7 := Lib.hid hk
  clear hk
  go_wp2_with fail
  refine (kp_finds K7.out ⟨#[114, 101, 100]⟩ (by decide) f7).mono ?_
  rintro q w8 ⟨rfl, hk⟩
  have K8 := Lib.hid hk
  clear hk
  go_wp2_with fail
  refine (kp_adds K8.out (fine_of (by decide +kernel)) ⟨#[103, 114, 101, 101, 110]⟩ (by decide) f8).mono ?_
  rintro q w9 ⟨rfl, hk⟩
  have K9 := Lib.hid hk
  clear hk
  go_wp2_with fail
  refine (kp_adds K9.out (fine_of (by decide +kernel)) ⟨#[103, 111, 108, 100]⟩ (by decide) f9).mono ?_
  rintro q w10 ⟨rfl, hk⟩
  have K10 := Lib.hid hk
  clear hk
  go_wp2_with fail
  refine (kp_adds K10.out (fine_of (by decide +kernel)) ⟨#[112, 105, 110, 107]⟩ (by decide) f10).mono ?_
  rintro q w11 ⟨rfl, hk⟩
  have K11 := Lib.hid hk
  clear hk
  go_wp2_with fail
  refine (kp_names K11.out (2) f11).mono ?_
  rintro q w12 ⟨rfl, hk⟩
  have K12 := Lib.hid hk
  clear hk
  go_wp2_with fail
  refine (kp_list K12.out f12).mono ?_
  rintro q w13 ⟨A, cc, rfl, hr, hk⟩
  have HR := Lib.hid hr
  obtain ⟨u0, hu0⟩ : ∃ u0, u0 = w13.alloc (.cells #[.string ⟨#[98, 108, 117, 101]⟩, .string ⟨#[103, 111, 108, 100]⟩, .string ⟨#[103, 114, 101, 101, 110]⟩] 9) := ⟨_, rfl⟩
  have hbu : Below w13.heap.size w13 u0 := by rw [hu0]; exact bnew _ _
  have HM : Hid (Rs u0 1 (some ⟨w13.heap.size, 0, none⟩) 3 3 (strs [⟨#[98, 108, 117, 101]⟩, ⟨#[103, 111, 108, 100]⟩, ⟨#[103, 114, 101, 101, 110]⟩])) := by
    show Rs _ _ _ _ _ _
    rw [hu0]
    exact Rs.mine (Mine.lit w13 #[.string ⟨#[98, 108, 117, 101]⟩, .string ⟨#[103, 111, 108, 100]⟩, .string ⟨#[103, 114, 101, 101, 110]⟩] 9 3 rfl (by unfold maxLen; omega))
  have HR2 := Lib.hid (HR.out.below hbu (Nat.le_refl _))
  have KU := Lib.hid (hk.below hbu)
  clear hk hr hbu
  go_wp2_with fail
  rw [← hu0]
  clear hu0
  refine (strings_true (l := [⟨#[98, 108, 117, 101]⟩, ⟨#[103, 111, 108, 100]⟩, ⟨#[103, 114, 101, 101, 110]⟩]) rfl rfl HR2.out HM.out).mono ?_
  rintro q w14 ⟨rfl, hb⟩
  have K14 := Lib.hid (KU.out.below hb)
  clear hb
  go_wp2_with fail
  refine (kp_lens K14.out f13).mono ?_
  rintro q w15 ⟨rfl, hk⟩
  have K15 := Lib.hid hk
  clear hk
  go_wp2_with fail
  refine (new_no (m := 0) (by omega) 0 w15).mono ?_
  rintro q w16 ⟨rfl, hb⟩
  have K16 := Lib.hid (K15.out.below hb)
  clear hb
  go_wp2_with fail
  refine (new_no (m := 65537) (by omega) 0 w16).mono ?_
  rintro q w17 ⟨rfl, hb⟩
  have K17 := Lib.hid (K16.out.below hb)
  clear hb
  go_wp2_with fail
  refine (kp_frees K17.out (3) f14).mono ?_
  rintro q w18 ⟨rfl, hk⟩
  have K18 := Lib.hid hk
  clear hk
  go_wp2_with fail
  refine (kp_frees K18.out (-1) f15).mono ?_
  rintro q w19 ⟨rfl, hk⟩
  have K19 := Lib.hid hk
  clear hk
  go_wp2_with fail
  refine (kp_names K19.out (7) f16).mono ?_
  rintro q w20 ⟨rfl, hk⟩
  have K20 := Lib.hid hk
  clear hk
  go_wp2_with fail
  refine (kp_adds K20.out (fine_of (by decide +kernel)) ⟨#[]⟩ (by decide) f17).mono ?_
  rintro q w21 ⟨rfl, hk⟩
  have K21 := Lib.hid hk
  clear hk
  obtain ⟨u1, hmk, hrow, hbm, hsz⟩ := make_row 65 w21 (by omega)
  have hcv := conv_rs (w := u1) (A := some ⟨w21.heap.size, 0, none⟩) (l := List.replicate 65 0) (n := 65) (by simp) 65 hrow
  obtain ⟨kk, hkk⟩ : ∃ kk : ByteArray, kk = k65 := ⟨_, rfl⟩
  have hcv2 : (convert 51 9 (.slice (some ⟨w21.heap.size, 0, none⟩) 65 65)).run Try.prog u1 = .ok (.string kk) u1 := by rw [hkk]; exact hcv
  have hmk2 : (Instr.makeSlice 51 (.int .i64 65) (.int .i64 65)).run Try.prog w21 = .ok (.slice (some ⟨w21.heap.size, 0, none⟩) 65 65) u1 := hmk
  have KM := Lib.hid (K21.out.below hbm)
  have HKK := Lib.hid hkk
  clear hmk hcv hrow hbm hsz hkk
  go_wp2_with fail
  have hfd : findV t7 kk = 0 ∧ findE t7 kk = 2 := by rw [HKK.out]; exact f18
  refine (kp_finds KM.out kk (by rw [HKK.out]; decide) hfd).mono ?_
  rintro q w22 ⟨rfl, hk⟩
  have KE := Lib.hid hk
  clear hk hfd
  go_wp2_with fail
  go_ret
  exact ⟨rfl, KE.out.bl⟩
end Go.Proofs.Ytmhbfplpodikiaa.Ak
