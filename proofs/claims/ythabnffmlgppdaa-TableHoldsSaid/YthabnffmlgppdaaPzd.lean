/- Proves that TableHolds returns true at every argument. Conditions: as the row gives them. -/
import Derived.Test.YthabnffmlgppdaaPzc
import Derived.Deep.CutBlock
import Derived.BigFrame
namespace Go.Proofs.Ythabnffmlgppdaa.Pzd
open Go.RowKit Go.Maps Ap Mi Nw Rg Hm Tm Tn Ta Tb Pm Pa Pb Pc Pd Pe Pf Pg Ph Pn Pj Pk Pq Px Pu Pv Pza Pzb Pzc
open Tf (okK okK_spec Puts Gets)

set_option maxRecDepth 1000000 in
set_option maxHeartbeats 4000000 in
theorem sw_ok {N : Nat} {W : World} {f : Nat → Value} {s1 s2 : Int} {A : Option Addr} {len cap g1 g2 b9 k b11 : Nat} {nv : Int} {th : Bool} {wc : World} {K : Go.Act → World → Prop} {Q : Exit → Go.Act → World → Prop} {n : Nat} {F1 F2 : Nat → Prop} {c d : List (Cell Key)} {D : DataW Unit} {mv : Key → Option Int} {xa xn : Int} {xk : Key}
    (hk1 : k < 200) (hnk : n ≤ k) (hcn : cnt c ≤ k) (BO0 : Hid (Base N wc F1 F2 g1 g2 b9 n D s1 s2 c d)) (TW : Hid (Two s1 s2 c d)) (TR : Hid (Trk D mv c)) (BL0 : Hid (Below N W wc)) (hzc : N ≤ wc.heap.size)
    (P11 : Hid (Blk wc b11 #[.int .i64 xa, .string ⟨xk.toArray⟩, .int .i64 xn] 34)) (HFA : Hid (∀ j, F1 j → j ≠ b11)) (HFB : Hid (∀ j, F2 j → j ≠ b11)) (hxk : xk.length ≤ 300) (HXN : Hid (In xn)) (hcl : c.length ≤ 10000)
    (HT1 : Hid (th = true → ∃ y : Nat, some (xk, y) ∈ c ∧ nv = (y : Int))) (HT0 : Hid (th = false → ∀ y, some (xk, y) ∉ c))
    (HK : Hid (∀ a' w', Fr a' s1 A len cap g1 g2 b9 k → Mid N W g1 g2 b9 s1 s2 (k + 1) w' → K a' w')) :
    Code.wp Try.prog sw (Exit.then K Q) ⟨#[.int .u64 s1, f 1, .slice A len cap, f 3, f 4, f 5, f 6, .pointer (some ⟨g1, 0, none⟩), .pointer (some ⟨g2, 0, none⟩), .map (some b9), f 10, .pointer (some ⟨b11, 0, none⟩), .int .i64 nv, .bool th, f 14, f 15, f 16, f 17, f 18, f 19, f 20, f 21, f 22, f 23, f 24, f 25, f 26, f 27, f 28, f 29, f 30, f 31, f 32, f 33, f 34, f 35, f 36, f 37, f 38, f 39, f 40, f 41, f 42, f 43, f 44, f 45, f 46, f 47, f 48, f 49, .slice A len cap, .int .i64 (len : Int), .int .i64 (k : Int), f 53, f 54, f 55, f 56, f 57, f 58, f 59, f 60, f 61, f 62, f 63, f 64, f 65, f 66, f 67, f 68, f 69, f 70, f 71, f 72, f 73, f 74, f 75, f 76, f 77, f 78, f 79, f 80, f 81, f 82, f 83, f 84, f 85, f 86, f 87, f 88, f 89, f 90, f 91, f 92, f 93, f 94, f 95, f 96, f 97, f 98, f 99, f 100, f 101, f 102, f 103, f 104, f 105, f 106, f 107, f 108, f 109, f 110, f 111, f 112, f 113, f 114, f 115, f 116, f 117, f 118, f 119, f 120, f 121, f 122, f 123, f 124, f 125, f 126, f 127, f 128, f 129, f 130, f 131, f 132, f 133, f 134, f 135, f 136, f 137, f 138, f 139, f 140, f 141, f 142, f 143, f 144, f 145, f 146, f 147, f 148, f 149, f 150, f 151, f 152, f 153, f 154, f 155, f 156, f 157, f 158, f 159, f 160, f 161, f 162, f 163, f 164, f 165, f 166, f 167, f 168, f 169, f 170, f 171, f 172, f 173, f 174, f 175, f 176, f 177, f 178, f 179, f 180, f 181, f 182, f 183, f 184, f 185, f 186, f 187, f 188, f 189, f 190, f 191, f 192, f 193, f 194, f 195, f 196, f 197, f 198, f 199, f 200, f 201, f 202, f 203, f 204, f 205, f 206, f 207, f 208, f 209, f 210, f 211, f 212, f 213, f 214, f 215, f 216, f 217, f 218, f 219, f 220, f 221, f 222, f 223, f 224, f 225, f 226, f 227, f 228, f 229, f 230, f 231, f 232, f 233, f 234, f 235, f 236, f 237, f 238, f 239, f 240, f 241, f 242, f 243, f 244, f 245, f 246, f 247, f 248, f 249, f 250, f 251, f 252, f 253, f 254, f 255, f 256, f 257, f 258, f 259, f 260, f 261, f 262, f 263, f 264, f 265, f 266, f 267, f 268, f 269, f 270, f 271, f 272, f 273, f 274, f 275, f 276, f 277, f 278, f 279, f 280, f 281, f 282, f 283, f 284, f 285, f 286, f 287, f 288, f 289, f 290, f 291, f 292, f 293, f 294, f 295, f 296, f 297, f 298, f 299, f 300, f 301, f 302, f 303], []⟩ wc := by
  by_cases q0 : xa = 0
  · exact sw0 q0 hk1 hnk hcn BO0 TW TR BL0 hzc P11 HFA HFB hxk HXN hcl HT1 HT0 HK
  · by_cases q2 : xa = 2
    · exact sw2 q2 hk1 hnk hcn BO0 TW TR BL0 hzc P11 HFA HFB hxk HXN hcl HT1 HT0 HK
    · by_cases q3 : xa = 3
      · exact sw3 q3 hk1 hnk hcn BO0 TW TR BL0 hzc P11 HFA HFB hxk HXN hcl HT1 HT0 HK
      · exact sw9 q0 q2 q3 hk1 hnk hcn BO0 TW TR BL0 hzc P11 HFA HFB hxk HXN hcl HT1 HT0 HK
noncomputable def r9 : Code := fstC blk1
noncomputable def r10 : Code := fstC (sndC blk1)
noncomputable def r11 : Code := fstC (sndC (sndC blk1))
set_option maxRecDepth 1000000 in
set_option maxHeartbeats 16000000 in
/-- The first three statements of a round, whatever follows them. -/
theorem pre_ok {N : Nat} {W : World} {f : Nat → Value} {s1 s2 : Int} {A : Option Addr} {cap g1 g2 b9 k : Nat} {wr : World} {Q : Exit → Go.Act → World → Prop} {l : List Px.Act} {X : Code}
    (hlt : k < l.length) (hl120 : l.length ≤ 120) (HN : Hid (N = W.heap.size)) (HD : Hid (Rs W 3 A l.length cap (acL l))) (HL : Hid (∀ x ∈ l, x.2.1.length ≤ 9223372036854775807 ∧ In x.2.2)) (HF : Hid (Few l)) (hmid : Mid N W g1 g2 b9 s1 s2 k wr)
    (HX : Hid (∀ (a' : Go.Act) (w' : World) (b11 n : Nat) (nv : Int) (th : Bool) (F1 F2 : Nat → Prop) (c d : List (Cell Key)) (D : DataW Unit) (mv : Key → Option Int) (xa xn : Int) (xk : Key), FrA a' s1 A l.length cap g1 g2 b9 k b11 nv th → n ≤ k → cnt c ≤ k → Hid (Base N w' F1 F2 g1 g2 b9 n D s1 s2 c d) → Hid (Two s1 s2 c d) → Hid (Trk D mv c) → Hid (Below N W w') → N ≤ w'.heap.size →
      Hid (Blk w' b11 #[.int .i64 xa, .string ⟨xk.toArray⟩, .int .i64 xn] 34) → Hid (∀ j, F1 j → j ≠ b11) → Hid (∀ j, F2 j → j ≠ b11) → xk.length ≤ 300 → Hid (In xn) → c.length ≤ 10000 → Hid (th = true → ∃ y : Nat, some (xk, y) ∈ c ∧ nv = (y : Int)) → Hid (th = false → ∀ y, some (xk, y) ∉ c) → Code.wp Try.prog X Q a' w')) :
    Code.wp Try.prog (Code.seq r9 (Code.seq r10 (Code.seq r11 X))) Q ⟨#[.int .u64 s1, f 1, .slice A l.length cap, f 3, f 4, f 5, f 6, .pointer (some ⟨g1, 0, none⟩), .pointer (some ⟨g2, 0, none⟩), .map (some b9), f 10, f 11, f 12, f 13, f 14, f 15, f 16, f 17, f 18, f 19, f 20, f 21, f 22, f 23, f 24, f 25, f 26, f 27, f 28, f 29, f 30, f 31, f 32, f 33, f 34, f 35, f 36, f 37, f 38, f 39, f 40, f 41, f 42, f 43, f 44, f 45, f 46, f 47, f 48, f 49, .slice A l.length cap, .int .i64 (l.length : Int), .int .i64 (k : Int), f 53, f 54, f 55, f 56, f 57, f 58, f 59, f 60, f 61, f 62, f 63, f 64, f 65, f 66, f 67, f 68, f 69, f 70, f 71, f 72, f 73, f 74, f 75, f 76, f 77, f 78, f 79, f 80, f 81, f 82, f 83, f 84, f 85, f 86, f 87, f 88, f 89, f 90, f 91, f 92, f 93, f 94, f 95, f 96, f 97, f 98, f 99, f 100, f 101, f 102, f 103, f 104, f 105, f 106, f 107, f 108, f 109, f 110, f 111, f 112, f 113, f 114, f 115, f 116, f 117, f 118, f 119, f 120, f 121, f 122, f 123, f 124, f 125, f 126, f 127, f 128, f 129, f 130, f 131, f 132, f 133, f 134, f 135, f 136, f 137, f 138, f 139, f 140, f 141, f 142, f 143, f 144, f 145, f 146, f 147, f 148, f 149, f 150, f 151, f 152, f 153, f 154, f 155, f 156, f 157, f 158, f 159, f 160, f 161, f 162, f 163, f 164, f 165, f 166, f 167, f 168, f 169, f 170, f 171, f 172, f 173, f 174, f 175, f 176, f 177, f 178, f 179, f 180, f 181, f 182, f 183, f 184, f 185, f 186, f 187, f 188, f 189, f 190, f 191, f 192, f 193, f 194, f 195, f 196, f 197, f 198, f 199, f 200, f 201, f 202, f 203, f 204, f 205, f 206, f 207, f 208, f 209, f 210, f 211, f 212, f 213, f 214, f 215, f 216, f 217, f 218, f 219, f 220, f 221, f 222, f 223, f 224, f 225, f 226, f 227, f 228, f 229, f 230, f 231, f 232, f 233, f 234, f 235, f 236, f 237, f 238, f 239, f 240, f 241, f 242, f 243, f 244, f 245, f 246, f 247, f 248, f 249, f 250, f 251, f 252, f 253, f 254, f 255, f 256, f 257, f 258, f 259, f 260, f 261, f 262, f 263, f 264, f 265, f 266, f 267, f 268, f 269, f 270, f 271, f 272, f 273, f 274, f 275, f 276, f 277, f 278, f 279, f 280, f 281, f 282, f 283, f 284, f 285, f 286, f 287, f 288, f 289, f 290, f 291, f 292, f 293, f 294, f 295, f 296, f 297, f 298, f 299, f 300, f 301, f 302, f 303], []⟩ wr := by
  obtain ⟨n, F1, F2, c, d, D, mv, hnk, hcn, hbo, htw, htr, hbl, hNr⟩ := hmid
  have BO := Lib.hid hbo; have TW := Lib.hid htw; have TR := Lib.hid htr; have BL := Lib.hid hbl
  have hcl : c.length ≤ 10000 := by have := htw.g1.few; omega
  have j1 : (k : Int) < (l.length : Int) := by omega
  have hdl := HD.out.le
  have hdm := HD.out.max
  unfold maxLen at hdm
  obtain ⟨f0, f1, f2⟩ := acL_get l k hlt
  have RD := HD.out.rd.below BL.out (by have := HN.out; omega)
  obtain ⟨tb, to_, rfl, ltb, a0⟩ := RD.at_ f0
  obtain ⟨tb', to', e1, _, a1⟩ := RD.at_ f1
  injection e1 with e1; injection e1 with e11 e12; subst e11; subst e12
  obtain ⟨tb', to', e1, _, a2⟩ := RD.at_ f2
  injection e1 with e1; injection e1 with e11 e12; subst e11; subst e12
  rw [← Nat.add_assoc] at a1 a2
  have hxk := few_at HF.out hlt
  have hxn := (HL.out _ (List.getElem_mem hlt)).2
  obtain ⟨⟨xa, xk, xn⟩, hx⟩ : ∃ x, x = l[k] := ⟨_, rfl⟩
  rw [← hx] at a0 a1 a2 hxk hxn
  simp only at a0 a1 a2 hxk hxn
  have HXN := Lib.hid hxn
  obtain ⟨v0, hv0⟩ : ∃ v0, v0 = wr.alloc (.cells #[.int .i64 xa, .string ⟨xk.toArray⟩, .int .i64 xn] 34) := ⟨_, rfl⟩
  obtain ⟨b11, hb11⟩ : ∃ b11, b11 = wr.heap.size := ⟨_, rfl⟩
  have b0 : Below wr.heap.size wr v0 := by rw [hv0]; exact bnew _ _
  have P11 : Hid (Blk v0 b11 #[.int .i64 xa, .string ⟨xk.toArray⟩, .int .i64 xn] 34) := by show Blk _ _ _ _; rw [hv0, hb11]; exact Blk.new _ _ _
  have BO0 := Lib.hid (BO.out.below b0 (Nat.le_refl _))
  have BL0 := Lib.hid (BL.out.trans (b0.mono hNr))
  have lz0 : wr.heap.size < v0.heap.size := by rw [hv0]; simp
  have l11 : b11 < v0.heap.size := P11.out.lt
  have HFA : Hid (∀ j, F1 j → j ≠ b11) := fun j hf => by have := (BO.out.f1 _ hf).2.1; omega
  have HFB : Hid (∀ j, F2 j → j ≠ b11) := fun j hf => by have := (BO.out.f2 _ hf).2.1; omega
  have hN0 : N ≤ v0.heap.size := by omega
  obtain ⟨hh, hv⟩ := TR.out.at_ xk
  have HH := Lib.hid hh; have HV := Lib.hid hv
  have TH := Lib.hid (there_of TR.out xk)
  obtain ⟨nv, hnv⟩ : ∃ nv, nv = (mv xk).getD 0 := ⟨_, rfl⟩
  obtain ⟨ob, hob⟩ : ∃ ob, ob = (mv xk).isSome := ⟨_, rfl⟩
  rw [← hnv, ← hob] at TH
  rw [← hnv] at HV
  rw [← hob] at HH
  clear f0 f1 f2 RD hx b0 hxn hh hv hnv hob hbo htw htr hbl
  conv => arg 2; arg 1; whnf
  conv => arg 2; arg 2; arg 1; whnf
  conv => arg 2; arg 2; arg 2; arg 1; whnf
  go_upto_region 10 with (fail)
  rw [← hv0, ← hb11]
  clear hv0 hb11 a0 a1 a2
  obtain ⟨y0, y1, y2, _⟩ := P11.out.three
  go_upto_region 11 with (at_lookup; refine at_ok _ rfl _ _ rfl b9 n D rfl BO0.out.mp xk (by unfold maxLen; omega) rfl _ _ HV.out HH.out ?_)
  rcases TH.out with ⟨rfl, h0, hy⟩ | ⟨rfl, h0, hy⟩ | ⟨rfl, h0, hy⟩
  · have HY := Lib.hid hy
    clear hy
    go_wp2_with fail
    exact HX.out _ _ b11 n nv true F1 F2 c d D mv xa xn xk ⟨⟨rfl, rfl, rfl, rfl, rfl, rfl, rfl, rfl, rfl, rfl⟩, rfl, rfl, rfl⟩ hnk hcn BO0 TW TR BL0 hN0 P11 HFA HFB hxk HXN hcl (fun _ => HY.out) (fun e => by cases e)
  · have HY := Lib.hid hy
    have h0' : ¬ 0 ≤ nv := by omega
    clear hy
    go_wp2_with fail
    exact HX.out _ _ b11 n nv false F1 F2 c d D mv xa xn xk ⟨⟨rfl, rfl, rfl, rfl, rfl, rfl, rfl, rfl, rfl, rfl⟩, rfl, rfl, rfl⟩ hnk hcn BO0 TW TR BL0 hN0 P11 HFA HFB hxk HXN hcl (fun e => by cases e) (fun _ => HY.out)
  · have HY := Lib.hid hy
    clear hy h0
    go_wp2_with fail
    exact HX.out _ _ b11 n nv false F1 F2 c d D mv xa xn xk ⟨⟨rfl, rfl, rfl, rfl, rfl, rfl, rfl, rfl, rfl, rfl⟩, rfl, rfl, rfl⟩ hnk hcn BO0 TW TR BL0 hN0 P11 HFA HFB hxk HXN hcl (fun e => by cases e) (fun _ => HY.out)
set_option maxRecDepth 1000000 in
theorem blk_eq : blk1 = Code.seq r9 (Code.seq r10 (Code.seq r11 (Code.seq sw tail))) := by rfl
set_option maxRecDepth 1000000 in
set_option maxHeartbeats 4000000 in
theorem body_ok {N : Nat} {W : World} {a : Go.Act} {s1 s2 : Int} {A : Option Addr} {cap g1 g2 b9 k : Nat} {wr : World} {Q : Exit → Go.Act → World → Prop} {l : List Px.Act}
    (hfr0 : Fr a s1 A l.length cap g1 g2 b9 k) (hlt : k < l.length) (hl120 : l.length ≤ 120) (HS1 : Hid (U64 s1)) (HN : Hid (N = W.heap.size)) (HD : Hid (Rs W 3 A l.length cap (acL l))) (HL : Hid (∀ x ∈ l, x.2.1.length ≤ 9223372036854775807 ∧ In x.2.2)) (HF : Hid (Few l)) (hmid : Mid N W g1 g2 b9 s1 s2 k wr)
    (HQ : Hid (∀ a' w', Fr a' s1 A l.length cap g1 g2 b9 k → Mid N W g1 g2 b9 s1 s2 (k + 1) w' → Q .normal a' w')) :
    Code.wp Try.prog blk1 Q a wr := by
  obtain ⟨f, rfl⟩ := hfr0.opened
  rw [blk_eq]
  refine pre_ok hlt hl120 HN HD HL HF hmid (Lib.hid fun a' w' b11 n nv th F1 F2 c d D mv xa xn xk hfr hnk hcn BO0 TW TR BL0 hN0 P11 HFA HFB hxk HXN hcl HT1 HT0 => ?_)
  obtain ⟨f', rfl⟩ := hfr.opened
  refine wp_seq (sw_ok (by omega) hnk hcn BO0 TW TR BL0 hN0 P11 HFA HFB hxk HXN hcl HT1 HT0 (Lib.hid fun a2 w2 h1 h2 => ?_))
  obtain ⟨f2, rfl⟩ := h1.opened
  exact tail_ok (by omega) HS1 h2 HQ
set_option maxRecDepth 1000000 in
set_option maxHeartbeats 16000000 in
theorem holds_walk (s1 s2 : Int) (C : Option Addr) (q : Nat) (l : List Px.Act) (W : World) (h1 : U64 s1) (h2 : U64 s2) (ha : Rs W 3 C l.length q (acL l)) (hl : ∀ x ∈ l, x.2.1.length ≤ 9223372036854775807 ∧ In x.2.2) :
    Calls Try.prog 7 #[.int .u64 s1, .int .u64 s2, .slice C l.length q] W (boolTo true W) := by
  have HSM := Lib.hid (small_any C q l W ha (fun x hx => (hl x hx).1))
  unfold smallPost at HSM
  have HD := Lib.hid ha
  have HL := Lib.hid hl
  have HS1 := Lib.hid h1; have HS2 := Lib.hid h2
  have hdl := ha.le
  have hdm := ha.max
  unfold maxLen at hdm
  clear ha hl h1 h2
  obtain ⟨N, hN⟩ : ∃ N, N = W.heap.size := ⟨_, rfl⟩
  have HN := Lib.hid hN
  unfold boolTo
  rw [← hN]
  clear hN
  have hmm := @run_makeMap Try.prog
  go_enter Try.func7, Try.ntmps7
  go_wp2_with fail
  refine HSM.out.mono ?_
  rintro e w1 ⟨rfl, b, rfl, hb⟩
  cases b with
  | false =>
    clear hb
    go_wp2_with fail
    refine (known_any W).mono ?_
    rintro e w1 ⟨rfl, hb⟩
    have HB := Lib.hid hb
    clear hb
    go_wp2_with fail
    go_ret
    exact ⟨rfl, by rw [HN.out]; exact HB.out⟩
  | true =>
    have HF := Lib.hid (hb rfl)
    have hl120 := (hb rfl).1
    have HNW := Lib.hid (new_any s1 W HS1.out)
    unfold Pc.newPost at HNW
    rw [← HN.out] at HNW
    clear hb HSM
    go_wp2_with fail
    refine HNW.out.mono ?_
    rintro e w1 ⟨g1, rfl, ha, hb⟩
    have HA := Lib.hid ha.tight; have HB1 := Lib.hid hb
    have hz1 : N ≤ w1.heap.size := by rw [HN.out]; exact hb.size
    have HRN := Lib.hid (new_any s2 w1 HS2.out)
    unfold Pc.newPost at HRN
    clear ha hb HNW
    go_wp2_with fail
    refine HRN.out.mono ?_
    rintro e w2 ⟨g2, rfl, ha, hb⟩
    have HA2 := Lib.hid ha.tight
    have hz2 : w1.heap.size ≤ w2.heap.size := hb.size
    have HA12 := Lib.hid (HA.out.below hb (Nat.le_refl _))
    have HB2 := Lib.hid (HB1.out.trans (hb.mono hz1))
    clear ha hb HRN
    go_upto_region 7 with (fail)
    obtain ⟨b9, hb9⟩ : ∃ b9, b9 = w2.heap.size := ⟨_, rfl⟩
    obtain ⟨w3, hw3⟩ : ∃ w3, w3 = w2.alloc (.map #[] 0) := ⟨_, rfl⟩
    have b3 : Below w2.heap.size w2 w3 := by rw [hw3]; exact bnew _ _
    have HB3 := Lib.hid (HB2.out.trans (b3.mono (by omega)))
    have hz3 : w2.heap.size + 1 ≤ w3.heap.size := by rw [hw3]; simp
    have HBO : Hid (Base N w3 (fun j => N ≤ j ∧ j < w1.heap.size) (fun j => w1.heap.size ≤ j ∧ j < w2.heap.size) g1 g2 b9 0 (.map []) s1 s2 (List.replicate 8 none) (List.replicate 8 none)) :=
      ⟨HA12.out.below b3 (Nat.le_refl _), HA2.out.below b3 (Nat.le_refl _), by rw [hw3, hb9]; exact made w2, fun j hj => ⟨hj.1, by omega, by omega, fun h => by have := h.1; omega⟩, fun j hj => ⟨by have := hj.1; omega, by have := hj.2; omega, by have := hj.2; omega⟩, by omega⟩
    have HM0 : Hid (Mid N W g1 g2 b9 s1 s2 0 w3) := ⟨0, _, _, _, _, _, _, Nat.le_refl _, by rw [cnt_none]; exact Nat.le_refl _, HBO.out, two_start _ _, trk_start, HB3.out, by omega⟩
    rw [← hw3, ← hb9]
    clear hw3 hb9 b3 HBO
    go_wp2_with fail
    refine wp_loop (fun a' w' => ∃ k : Nat, k ≤ l.length ∧ Fr a' s1 C l.length q g1 g2 b9 k ∧ Mid N W g1 g2 b9 s1 s2 k w') (fun a' _ => l.length - (intOf (a'.tmps.getD 52 undef)).toNat) ?_ ?_
    · exact ⟨0, Nat.zero_le _, ⟨rfl, rfl, rfl, rfl, rfl, rfl, rfl, rfl, rfl, rfl⟩, HM0.out⟩
    · rintro a wr ⟨k, hk, hfr, hm⟩
      obtain ⟨f, rfl⟩ := hfr.opened
      have HM := Lib.hid hm
      clear hfr hm HM0 HA HA2 HA12
      by_cases hlt : k < l.length
      · have j1 : (k : Int) < (l.length : Int) := by omega
        go_upto_block 1 with fail
        refine wp_block ?_
        refine body_ok ⟨rfl, rfl, rfl, rfl, rfl, rfl, rfl, rfl, rfl, rfl⟩ hlt hl120 HS1 HN HD HL HF HM.out (Lib.hid fun a' w' h1 h2 => ?_)
        obtain ⟨f', rfl⟩ := h1.opened
        have H2 := Lib.hid h2
        clear h1 h2
        go_wp2_with fail
        refine ⟨⟨k + 1, by omega, ⟨rfl, rfl, rfl, rfl, rfl, rfl, rfl, rfl, rfl, rfl⟩, H2.out⟩, ?_⟩
        simp [intOf]; omega
      · obtain rfl : k = l.length := by omega
        have hnn : ¬ (l.length : Int) < l.length := by omega
        obtain ⟨n, F1, F2, c, d, D, mv, _, _, _, _, _, hbl, hNr⟩ := HM.out
        have BL := Lib.hid hbl
        clear hbl
        go_wp2_with fail
        refine (known_any _).mono ?_
        rintro r v ⟨rfl, hbk⟩
        have HBK := Lib.hid hbk
        clear hbk
        go_wp2_with fail
        go_ret
        exact ⟨rfl, BL.out.trans (HBK.out.mono hNr)⟩
end Go.Proofs.Ythabnffmlgppdaa.Pzd
