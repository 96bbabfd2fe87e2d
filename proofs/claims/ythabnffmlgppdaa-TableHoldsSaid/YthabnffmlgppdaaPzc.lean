/- Proves what follows a call in TableHolds: the range over the map, the sizes, and the way from each home to its cell. Conditions: as the theorem names them. -/
import Derived.Deep.CutRange
import Derived.Test.YthabnffmlgppdaaPzb
import Derived.BigFrame
namespace Go.Proofs.Ythabnffmlgppdaa.Pzc
open Go.RowKit Go.Maps Ap Mi Nw Rg Hm Tm Tn Ta Tb Pm Pa Pb Pc Pd Pe Pf Pg Ph Pn Pj Pk Pq Px Pu Pv Pza
open Tf (okK okK_spec Gets)
open Hw (sum_any hindex_any)

set_option maxRecDepth 1000000 in
set_option maxHeartbeats 16000000 in
theorem tail_ok {N : Nat} {W : World} {f : Nat → Value} {s1 s2 : Int} {A : Option Addr} {len cap g1 g2 b9 k : Nat} {wc : World} {Q : Exit → Go.Act → World → Prop}
    (hk1 : k < 200) (HS1 : Hid (U64 s1)) (hmid : Mid N W g1 g2 b9 s1 s2 (k + 1) wc) (HQ : Hid (∀ a' w', Fr a' s1 A len cap g1 g2 b9 k → Mid N W g1 g2 b9 s1 s2 (k + 1) w' → Q .normal a' w')) :
    Code.wp Try.prog tail Q ⟨#[.int .u64 s1, f 1, .slice A len cap, f 3, f 4, f 5, f 6, .pointer (some ⟨g1, 0, none⟩), .pointer (some ⟨g2, 0, none⟩), .map (some b9), f 10, f 11, f 12, f 13, f 14, f 15, f 16, f 17, f 18, f 19, f 20, f 21, f 22, f 23, f 24, f 25, f 26, f 27, f 28, f 29, f 30, f 31, f 32, f 33, f 34, f 35, f 36, f 37, f 38, f 39, f 40, f 41, f 42, f 43, f 44, f 45, f 46, f 47, f 48, f 49, .slice A len cap, .int .i64 (len : Int), .int .i64 (k : Int), f 53, f 54, f 55, f 56, f 57, f 58, f 59, f 60, f 61, f 62, f 63, f 64, f 65, f 66, f 67, f 68, f 69, f 70, f 71, f 72, f 73, f 74, f 75, f 76, f 77, f 78, f 79, f 80, f 81, f 82, f 83, f 84, f 85, f 86, f 87, f 88, f 89, f 90, f 91, f 92, f 93, f 94, f 95, f 96, f 97, f 98, f 99, f 100, f 101, f 102, f 103, f 104, f 105, f 106, f 107, f 108, f 109, f 110, f 111, f 112, f 113, f 114, f 115, f 116, f 117, f 118, f 119, f 120, f 121, f 122, f 123, f 124, f 125, f 126, f 127, f 128, f 129, f 130, f 131, f 132, f 133, f 134, f 135, f 136, f 137, f 138, f 139, f 140, f 141, f 142, f 143, f 144, f 145, f 146, f 147, f 148, f 149, f 150, f 151, f 152, f 153, f 154, f 155, f 156, f 157, f 158, f 159, f 160, f 161, f 162, f 163, f 164, f 165, f 166, f 167, f 168, f 169, f 170, f 171, f 172, f 173, f 174, f 175, f 176, f 177, f 178, f 179, f 180, f 181, f 182, f 183, f 184, f 185, f 186, f 187, f 188, f 189, f 190, f 191, f 192, f 193, f 194, f 195, f 196, f 197, f 198, f 199, f 200, f 201, f 202, f 203, f 204, f 205, f 206, f 207, f 208, f 209, f 210, f 211, f 212, f 213, f 214, f 215, f 216, f 217, f 218, f 219, f 220, f 221, f 222, f 223, f 224, f 225, f 226, f 227, f 228, f 229, f 230, f 231, f 232, f 233, f 234, f 235, f 236, f 237, f 238, f 239, f 240, f 241, f 242, f 243, f 244, f 245, f 246, f 247, f 248, f 249, f 250, f 251, f 252, f 253, f 254, f 255, f 256, f 257, f 258, f 259, f 260, f 261, f 262, f 263, f 264, f 265, f 266, f 267, f 268, f 269, f 270, f 271, f 272, f 273, f 274, f 275, f 276, f 277, f 278, f 279, f 280, f 281, f 282, f 283, f 284, f 285, f 286, f 287, f 288, f 289, f 290, f 291, f 292, f 293, f 294, f 295, f 296, f 297, f 298, f 299, f 300, f 301, f 302, f 303], []⟩ wc := by
  obtain ⟨n, F1, F2, c, d, D, mv, hn, hcn, hbo, htw, htr, hbl, hNr⟩ := hmid
  have BT := Lib.hid hbo; have TW := Lib.hid htw; have TR := Lib.hid htr; have BL := Lib.hid hbl
  have hfew := htw.g1.few
  have hcl : c.length ≤ 10000 := by omega
  have HAT : Hid (∀ k, has D (kl k) = true → D.atKey (kl k) (.lit (.int .i64 0)) = .lit (.int .i64 ((mv k).getD 0))) := fun k _ => (htr.at_ k).2
  have hNb := hbo.nb
  have hb9l := hbo.mp.lt
  clear hbo htw htr hbl
  conv => arg 2; whnf
  go_wp2_with (at_range; refine at_rng _ rfl _ rfl b9 n D rfl BT.out.mp ?_; intro w0 hr0 hb0 hs0)
  try go_frame
  have BR := Lib.hid (BT.out.below hb0 (Nat.le_refl _))
  have BLR := Lib.hid (BL.out.trans (hb0.mono hNr))
  obtain ⟨r, hr⟩ : ∃ r, r = wc.heap.size := ⟨_, rfl⟩
  rw [← hr] at hr0
  rw [← hr]
  have hNr0 : N ≤ w0.heap.size := by omega
  have HF1 : Hid (∀ j, j = r → ¬ F1 j) := fun j e hf => by have := (BT.out.f1 j hf).2.1; omega
  have HF2 : Hid (∀ j, j = r → ¬ F2 j) := fun j e hf => by have := (BT.out.f2 j hf).2.1; omega
  have hr9 : b9 ≠ r := by omega
  have hNrr : N ≤ r := by omega
  have HR0 := Lib.hid hr0
  clear hr hr0 hb0 hs0
  go_loopw [24] (fun lv wr => ∃ (cn2 : Nat) (V : List Key) (cv : Nat), Rng wr b9 r n D cn2 V ∧ V.Nodup ∧ lv = .int .i64 (cv : Int) ∧ Hid (cv = V.countP (live mv)) ∧ Base N wr F1 F2 g1 g2 b9 n D s1 s2 c d ∧ Below N W wr ∧ N ≤ wr.heap.size) (fun _ wr => wr.rangeLeft b9 r)
  case atStart => exact ⟨_, [], 0, HR0.out, List.nodup_nil, rfl, rfl, BR.out, BLR.out, hNr0⟩
  case round =>
    obtain ⟨cn2, V, cv, hrg, hnd, rfl, HCV, hbo, hbl, hNx⟩ := hrel
    have RG := Lib.hid hrg; have BX := Lib.hid hbo; have BLX := Lib.hid hbl; have HND := Lib.hid hnd
    have hcvb : cv ≤ k + 1 := by rw [HCV.out]; exact Nat.le_trans (live_le TR.out hnd) hcn
    clear hrg hbo hbl hnd
    go_wp2_with (at_next; refine Pu.at_next _ rfl _ rfl b9 r n D cn2 V (fun k => (mv k).getD 0) HAT.out rfl RG.out ?_ ?_)
    · intro hall
      have HCE : Hid ((cnt c : Int) = (cv : Int)) := by show _ = _; rw [HCV.out, live_all TR.out TW.out.g1.tab HND.out hall]
      have HCE2 : Hid ((cnt d : Int) = (cv : Int)) := by show _ = _; rw [← TW.out.cnt]; exact HCE.out
      have HLE : Hid ((d.length : Int) = (c.length : Int)) := by show _ = _; rw [TW.out.len]
      have q1 : ¬ 3 * (c.length : Int) < 4 * (cv : Int) := by have := TW.out.g1.hi; have := HCE.out; omega
      have q2 : 8 < (c.length : Int) → ¬ 8 * (cv : Int) < (c.length : Int) := fun h => by have := TW.out.g1.few; have := HCE.out; omega
      have HQ2 := Lib.hid q2
      clear hall q2 hfew
      go_upto_region 43 with fail
      go_cut [262] from 226 to 262 (fun t wx => t = .bool false ∧ wx = wr)
      case first =>
        by_cases h8 : (8 : Int) < (c.length : Int)
        · have h9 := HQ2.out h8
          go_wp2_with fail
          refine (plen_any BX.out.t1).mono ?_
          rintro e w5 ⟨rfl, rfl⟩
          rw [HCE.out]
          go_wp2_with fail
          refine (plen_any BX.out.t2).mono ?_
          rintro e w5 ⟨rfl, rfl⟩
          rw [HCE2.out]
          go_wp2_with fail
          refine (size_any BX.out.t1.pl).mono ?_
          rintro e w5 ⟨rfl, rfl⟩
          go_wp2_with fail
          refine (size_any BX.out.t2.pl).mono ?_
          rintro e w5 ⟨rfl, rfl⟩
          rw [HLE.out]
          go_wp2_with fail
          refine (size_any BX.out.t1.pl).mono ?_
          rintro e w5 ⟨rfl, rfl⟩
          go_wp2_with fail
          refine (size_any BX.out.t1.pl).mono ?_
          rintro e w5 ⟨rfl, rfl⟩
          go_wp2_with fail
          refine (size_any BX.out.t1.pl).mono ?_
          rintro e w5 ⟨rfl, rfl⟩
          go_wp2_with fail
          go_meet
          exact ⟨by simp; omega, rfl⟩
        · have h8' : decide ((8 : Int) < (c.length : Int)) = false := by simpa using h8
          go_wp2_with fail
          refine (plen_any BX.out.t1).mono ?_
          rintro e w5 ⟨rfl, rfl⟩
          rw [HCE.out]
          go_wp2_with fail
          refine (plen_any BX.out.t2).mono ?_
          rintro e w5 ⟨rfl, rfl⟩
          rw [HCE2.out]
          go_wp2_with fail
          refine (size_any BX.out.t1.pl).mono ?_
          rintro e w5 ⟨rfl, rfl⟩
          go_wp2_with fail
          refine (size_any BX.out.t2.pl).mono ?_
          rintro e w5 ⟨rfl, rfl⟩
          rw [HLE.out]
          go_wp2_with fail
          refine (size_any BX.out.t1.pl).mono ?_
          rintro e w5 ⟨rfl, rfl⟩
          go_wp2_with fail
          refine (size_any BX.out.t1.pl).mono ?_
          rintro e w5 ⟨rfl, rfl⟩
          go_wp2_with fail
          go_meet
          exact ⟨by simp; omega, rfl⟩
      case rest =>
        obtain ⟨rfl, rfl⟩ := hcut
        go_wp2_with fail
        refine (cells_any BX.out.t1.pl).mono ?_
        rintro e w6 ⟨X, Y, rfl, ho, hb⟩
        have B6 := Lib.hid (BX.out.below hb (Nat.le_refl _))
        have L6 := Lib.hid (BLX.out.trans (hb.mono hNx))
        have hN6 : N ≤ w6.heap.size := Nat.le_trans hNx hb.size
        have HKS := Lib.hid (Rs.mine ho.ks)
        have HKY := Lib.hid BX.out.t1.pl.kys
        clear ho hb
        go_wp2_with fail
        go_loopw [270] (fun i wr3 => ∃ i3 : Nat, i3 ≤ c.length ∧ i = .int .i64 (i3 : Int) ∧ wr3 = w6) (fun i _ => c.length - (intOf i).toNat)
        case atStart => exact ⟨0, Nat.zero_le _, rfl, rfl⟩
        case round =>
          obtain ⟨i3, hi3, rfl, rfl⟩ := hrel
          by_cases hlt3 : i3 < c.length
          · have j3 : (i3 : Int) < (c.length : Int) := by omega
            obtain ⟨o, hgo, _⟩ := get_of hlt3
            have HG := Lib.hid hgo
            have hkc : (kc c)[i3]? = some (.string ⟨(ck o).toArray⟩) := by unfold kc; rw [List.getElem?_map, hgo]; rfl
            obtain ⟨tb, to_, rfl, ltb, a0⟩ := HKS.out.rd.at_ hkc
            clear hgo hkc
            cases o with
            | none =>
              have a1 : wr.cell? ⟨tb, to_ + i3, none⟩ = some (.string ⟨#[]⟩) := a0
              clear a0
              go_wp2_with fail
              go_roundw
              case rel => exact ⟨i3 + 1, by omega, by go_num, trivial⟩
              case measure => simp [intOf]; omega
            | some ky =>
              obtain ⟨k3, x3⟩ := ky
              have a1 : wr.cell? ⟨tb, to_ + i3, none⟩ = some (.string ⟨k3.toArray⟩) := a0
              obtain ⟨e1, e2, _⟩ := HKY.out k3 x3 (List.mem_of_getElem? HG.out)
              have hbe : List.isEmpty k3 = false := by cases k3 with
                | nil => simp at e1
                | cons _ _ => rfl
              have hsz : (⟨k3.toArray⟩ : ByteArray).size ≤ maxLen := by show k3.toArray.size ≤ maxLen; unfold maxLen; simp; omega
              have hp := BX.out.t1.pl.pw.pos
              have HS : Hid (∀ W, Calls Try.prog 28 #[.int .u64 s1, .string ⟨k3.toArray⟩] W fun e w' => e = .returned (.int .u64 (mixI (sumL s1 k3))) ∧ W = w') := fun W => sum_any s1 ⟨k3.toArray⟩ W HS1.out hsz
              have hI : idxI (mixI (sumL s1 k3)) (c.length : Int) = (hom s1 c.length k3 : Int) := by rw [idxI, if_pos BX.out.t1.pl.pw.isPow]; exact hom_cast s1 hp k3
              have hE : idxE (c.length : Int) = 0 := by rw [idxE, if_pos BX.out.t1.pl.pw.isPow]
              have HX : Hid (∀ W, Calls Try.prog 27 #[.int .u64 (mixI (sumL s1 k3)), .int .i64 (c.length : Int)] W fun e w' => e = .returned (.tuple #[.int .i64 (hom s1 c.length k3 : Int), .int .i64 0]) ∧ W = w') := fun W => (hindex_any (mixI (sumL s1 k3)) (c.length : Int) W (mix_bd _) (by omega) (by omega)).mono fun _ _ h => ⟨by rw [h.1, hI, hE], h.2⟩
              obtain ⟨x, hx⟩ : ∃ x, x = mixI (sumL s1 k3) := ⟨_, rfl⟩
              rw [← hx] at HS HX
              have hal := hom_lt s1 _ hp k3
              have HPT : Hid (∀ j, j < way c.length (hom s1 c.length k3) i3 → c[pos c.length (hom s1 c.length k3) j]? ≠ some none) := TW.out.g1.tab.path i3 k3 x3 HG.out
              obtain ⟨a, ha⟩ : ∃ a, a = hom s1 c.length k3 := ⟨_, rfl⟩
              rw [← ha] at HX hal HPT
              have hwl := way_lt hal hlt3
              have HPW := Lib.hid (pos_way hal hlt3)
              clear hx ha hI hE a0 hsz e1 e2
              go_wp2_with fail
              refine (HS.out _).mono ?_
              rintro e w7 ⟨rfl, rfl⟩
              go_wp2_with fail
              refine (HX.out _).mono ?_
              rintro e w7 ⟨rfl, rfl⟩
              go_wp2_with fail
              go_loopw [33] (fun h wr4 => ∃ j : Nat, j ≤ way c.length a i3 ∧ h = .int .i64 (pos c.length a j : Nat) ∧ wr4 = wr) (fun h _ => way c.length a i3 - way c.length a (intOf h).toNat)
              case atStart => exact ⟨0, Nat.zero_le _, by rw [pos_zero hal], rfl⟩
              case round =>
                obtain ⟨j, hj, rfl, rfl⟩ := hrel
                have hjl : j < c.length := by omega
                have hpl := pos_lt hal hjl
                by_cases hjw : j < way c.length a i3
                · obtain ⟨o4, hg4, _⟩ := get_of hpl
                  have hnn4 := HPT.out j hjw
                  cases o4 with
                  | none => exact absurd hg4 hnn4
                  | some ky4 =>
                    obtain ⟨k4, x4⟩ := ky4
                    obtain ⟨e1, _, _⟩ := HKY.out k4 x4 (List.mem_of_getElem? hg4)
                    have hbe4 : List.isEmpty k4 = false := by cases k4 with
                      | nil => simp at e1
                      | cons _ _ => rfl
                    have hkc4 : (kc c)[pos c.length a j]? = some (.string ⟨k4.toArray⟩) := by unfold kc; rw [List.getElem?_map, hg4]; rfl
                    obtain ⟨tb', to', e3, _, b1⟩ := HKS.out.rd.at_ hkc4
                    injection e3 with e3; injection e3 with e31 e32; subst e31; subst e32
                    have hne : pos c.length a j ≠ i3 := fun e => by
                      have := pos_inj hal hjl hwl (e.trans HPW.out.symm)
                      omega
                    have hnb : (((pos c.length a j : Nat) : Int) != (i3 : Int)) = true := by simp; omega
                    have HNX : Hid ((((pos c.length a j : Nat) : Int) + 1) % (c.length : Int) = (pos c.length a (j + 1) : Nat)) := by show _ = _; rw [next_mod hpl, pos_succ hal (by omega)]
                    have HME : Hid (way c.length a (pos c.length a j) = j ∧ way c.length a (pos c.length a (j + 1)) = j + 1) := ⟨way_pos hal hjl, way_pos hal (by omega)⟩
                    obtain ⟨p, hp2⟩ : ∃ p, p = pos c.length a j := ⟨_, rfl⟩
                    obtain ⟨p', hp3⟩ : ∃ p', p' = pos c.length a (j + 1) := ⟨_, rfl⟩
                    have HP3 := Lib.hid hp3
                    rw [← hp2] at hpl b1 hne hnb HNX HME ⊢
                    rw [← hp3] at HNX HME
                    have m2 := HNX.out
                    have m1 : ((p : Int) + 1).tmod (c.length : Int) = (p' : Int) := by rw [Int.tmod_eq_emod_of_nonneg (by omega)]; exact m2
                    have j4 : (p : Int) < (c.length : Int) := by omega
                    have j5 : (c.length : Int) ≠ 0 := by omega
                    clear hp2 hp3 hg4 hnn4 hkc4 e1
                    go_wp2_with fail
                    go_roundw
                    case rel => exact ⟨j + 1, by omega, by rw [HP3.out], trivial⟩
                    case measure =>
                      obtain ⟨z1, z2⟩ := HME.out
                      simp only [intOf, Int.toNat_natCast, z1, z2]; omega
                · obtain rfl : j = way c.length a i3 := by omega
                  have hpe := HPW.out
                  rw [hpe]
                  have hnb : ((i3 : Int) != (i3 : Int)) = false := by simp
                  clear hpe
                  go_wp2_with fail
                  go_roundw
                  case rel => exact ⟨i3 + 1, by omega, by go_num, trivial⟩
                  case measure => simp [intOf]; omega
          · obtain rfl : i3 = c.length := by omega
            have hnn : ¬ (c.length : Int) < c.length := by omega
            go_wp2_with fail
            exact HQ.out _ _ ⟨rfl, rfl, rfl, rfl, rfl, rfl, rfl, rfl, rfl, rfl⟩ ⟨n, F1, F2, c, d, D, mv, hn, hcn, B6.out, TW.out, TR.out, L6.out, hN6⟩
    · intro kx w2 cn3 hhas hnV hrg2 hlt2 ho2 hen
      obtain ⟨v, hv⟩ : ∃ v, mv kx = some v := Option.isSome_iff_exists.1 (by rw [← (TR.out.at_ kx).1]; exact hhas)
      have hvv : (mv kx).getD 0 = v := by rw [hv]; rfl
      have hkx : kx.length ≤ 250 := (okK_spec (TR.out.ok kx v hv)).2
      have hts := trk_same TR.out hv
      have HV := Lib.hid hv
      have B2 := Lib.hid (BX.out.only ho2 HF1.out HF2.out hr9)
      have R2 := Lib.hid hrg2
      have L2 := Lib.hid (BLX.out.trans (ho2.below (B := N) (fun j e => by omega) hNx))
      have hN2' : N ≤ w2.heap.size := Nat.le_trans hNx ho2.size
      have HND2 : Hid ((kx :: V).Nodup) := List.nodup_cons.2 ⟨hnV, HND.out⟩
      have HLV : Hid ((kx :: V).countP (live mv) = cv + if 0 ≤ v then 1 else 0) := by
        show _ = _
        rw [List.countP_cons, HCV.out]
        unfold live
        rw [hv]
        simp
      simp only [hvv] at hen ⊢
      have HCB := Lib.hid (Nat.le_trans (live_le TR.out HND2.out) hcn)
      clear ho2 hrg2 hhas hnV hv hvv
      by_cases h0 : 0 ≤ v
      · have HG1 := Lib.hid (hts.1 h0)
        have HG2 := Lib.hid (gets_two TW.out (hts.1 h0))
        rw [if_pos h0] at HLV
        have h0' : ¬ v < 0 := by omega
        have hcb : cv + 1 ≤ k + 1 := by have := HCB.out; rw [HLV.out] at this; exact this
        clear hts h0
        go_wp2_with fail
        refine (gets_true kx v 0 (R := fun w' => Below w2.heap.size w2 w') (get_any B2.out.t1 kx (by omega) HG1.out)).mono ?_
        rintro e w3 ⟨rfl, hb⟩
        have B3 := Lib.hid (B2.out.below hb (Nat.le_refl _))
        have R3 := Lib.hid (R2.out.kept (F := fun _ => False) (Only.of_below hb (Nat.le_refl _) _) (fun hf => hf) (fun hf => hf))
        have L3 := Lib.hid (L2.out.trans (hb.mono hN2'))
        have hN3 : N ≤ w3.heap.size := Nat.le_trans hN2' hb.size
        clear hb hen
        go_wp2_with fail
        refine (gets_true kx v 0 (R := fun w' => Below w3.heap.size w3 w') (get_any B3.out.t2 kx (by omega) HG2.out)).mono ?_
        rintro e w4 ⟨rfl, hb⟩
        have B4 := Lib.hid (B3.out.below hb (Nat.le_refl _))
        have R4 := Lib.hid (R3.out.kept (F := fun _ => False) (Only.of_below hb (Nat.le_refl _) _) (fun hf => hf) (fun hf => hf))
        have L4 := Lib.hid (L3.out.trans (hb.mono hN3))
        have hN4 : N ≤ w4.heap.size := Nat.le_trans hN3 hb.size
        clear hb
        go_wp2_with fail
        go_roundw
        case rel => exact ⟨cn3, kx :: V, cv + 1, R4.out, HND2.out, by go_num, HLV.out.symm, B4.out, L4.out, hN4⟩
        case measure => rw [R4.out.left, RG.out.left]; exact hlt2
      · have h0' : v < 0 := by omega
        have HG1 := Lib.hid (hts.2 h0')
        have HG2 := Lib.hid (gets_two TW.out (hts.2 h0'))
        rw [if_neg h0] at HLV
        clear hts h0
        go_wp2_with fail
        refine (gets_true kx 0 9 (R := fun w' => Below w2.heap.size w2 w') (get_any B2.out.t1 kx (by omega) HG1.out)).mono ?_
        rintro e w3 ⟨rfl, hb⟩
        have B3 := Lib.hid (B2.out.below hb (Nat.le_refl _))
        have R3 := Lib.hid (R2.out.kept (F := fun _ => False) (Only.of_below hb (Nat.le_refl _) _) (fun hf => hf) (fun hf => hf))
        have L3 := Lib.hid (L2.out.trans (hb.mono hN2'))
        have hN3 : N ≤ w3.heap.size := Nat.le_trans hN2' hb.size
        clear hb hen
        go_wp2_with fail
        refine (gets_true kx 0 9 (R := fun w' => Below w3.heap.size w3 w') (get_any B3.out.t2 kx (by omega) HG2.out)).mono ?_
        rintro e w4 ⟨rfl, hb⟩
        have B4 := Lib.hid (B3.out.below hb (Nat.le_refl _))
        have R4 := Lib.hid (R3.out.kept (F := fun _ => False) (Only.of_below hb (Nat.le_refl _) _) (fun hf => hf) (fun hf => hf))
        have L4 := Lib.hid (L3.out.trans (hb.mono hN3))
        have hN4 : N ≤ w4.heap.size := Nat.le_trans hN3 hb.size
        clear hb
        go_wp2_with fail
        go_roundw
        case rel => exact ⟨cn3, kx :: V, cv, R4.out, HND2.out, by go_num, HLV.out.symm, B4.out, L4.out, hN4⟩
        case measure => rw [R4.out.left, RG.out.left]; exact hlt2
end Go.Proofs.Ythabnffmlgppdaa.Pzc
