/- Proves what the specification's Tags returns: an insertion into a list in order. Conditions: at most 1,000 tags. -/
import Derived.Test.YtjieiakgikhofaaDoorKu
import Derived.Laws.AppendOwnNone
import Derived.Sort.Walk0
namespace Go.Proofs.YtjieiakgikhofaaDoor.Kz
open Go.RowKit Go.Maps Go.Sort Go.WideMaps Km Kt Kv Kl Ap Kx Ky Kr Ks Kf Kg Kj Ku

theorem ins_at : ∀ (acc : List Bs) (x : Bs) (k : Nat), k ≤ acc.length → (∀ j (h : j < acc.length), j < k → acc[j] < x) → (∀ (h : k < acc.length), ¬ acc[k] < x ∧ acc[k] ≠ x) → ins x acc = acc.take k ++ [x] ++ acc.drop k
  | [], x, k, hk, _, _ => by simp at hk; subst hk; rfl
  | y :: r, x, 0, _, _, hn => by
    obtain ⟨h1, h2⟩ := hn (by simp)
    simp only [List.getElem_cons_zero] at h1 h2
    rw [ins, if_neg h1, if_neg h2]; rfl
  | y :: r, x, k + 1, hk, hl, hn => by
    have h0 : y < x := hl 0 (by simp) (by omega)
    rw [ins, if_pos h0, ins_at r x k (by simpa using hk) (fun j h hj => by have := hl (j + 1) (by simpa using h) (by omega); simpa using this) (fun h => by have := hn (by simpa using h); simpa using this)]
    rfl
theorem ins_there : ∀ (acc : List Bs) (x : Bs) (k : Nat) (h : k < acc.length), (∀ j (h : j < acc.length), j < k → acc[j] < x) → acc[k] = x → ins x acc = acc
  | y :: r, x, 0, _, _, he => by
    have e : y = x := by simpa using he
    subst e
    rw [ins, if_neg (List.lt_irrefl y), if_pos rfl]
  | y :: r, x, k + 1, h, hl, he => by
    have h0 : y < x := hl 0 (by simp) (by omega)
    rw [ins, if_pos h0, ins_there r x k (by simpa using h) (fun j h hj => by have := hl (j + 1) (by simpa using h) (by omega); simpa using this) (by simpa using he)]
theorem tags_take {l : List Bs} {k : Nat} (h : k < l.length) : tagsL (l.take (k + 1)) = ins l[k] (tagsL (l.take k)) := by
  rw [List.take_succ_eq_append_getElem h, tagsL_snoc]

/-- 'append(out, s...)' where s reads as the list, nil or not. -/
theorem wpList_from {ops : Array Oper} {rest : List Oper} {o : Oper} {a : Act} {Q : Exit → Act → World → Prop} {w : World} (hgd : o.guard = none) (s x : Operand)
    (ho : o.op = .call { callee := .builtin .append, args := #[s, x], argTypes := #[26, 26] })
    {B : Nat} {v : Value} {l : List Bs} (hs : a.eval s = v) (hown : Own B w v l) (m : List Bs) (A : Option Addr) (c : Nat)
    (hx : a.eval x = .slice A m.length c) (hA : A = none → c = 0) (hr : Rd w A m) (hn : l.length ≤ 1000000) (hm : m.length ≤ 1000000) (hB : B ≤ w.heap.size)
    (h : ∀ v' w', Own B w' v' (l ++ m) → w.grownBy w' v.ownBlock → wpList Tryd.prog ops Q rest (a.put o.dst v') w') :
    wpList Tryd.prog ops Q (o :: rest) a w := by
  have hi := elS.info
  rw [Option.map_eq_some_iff] at hi
  obtain ⟨i, hi1, hi2⟩ := hi
  simp only [Prod.mk.injEq] at hi2
  have hb := elS.small i hi1
  cases A with
  | none =>
    have hm0 : m = [] := by
      rcases Nat.eq_zero_or_pos m.length with h0 | h0
      · exact List.eq_nil_of_length_eq_zero h0
      · obtain ⟨_, _, e, _⟩ := hr h0; cases e
    subst hm0
    rw [hA rfl] at hx
    exact wpList_append_own_none hgd s x _ ho B _ i 1 elS.sl hi1 v _ _ hs (own_row hown) hx (h v w (by rw [List.append_nil]; exact hown) (World.grownBy.refl w _))
  | some ad =>
    have hcells : ∀ j u, (m.map strV)[j]? = some u → w.cell? (ad.add j) = some u := by
      intro j u hu
      rw [List.getElem?_map] at hu
      cases hj : m[j]? with
      | none => rw [hj] at hu; cases hu
      | some y =>
        rw [hj] at hu
        obtain ⟨hj1, hj2⟩ := List.getElem?_eq_some_iff.1 hj
        obtain ⟨b, o', e, _, hc⟩ := hr (by omega)
        have e' : ad = ⟨b, o', none⟩ := by injection e
        subst e'
        have ha : (⟨b, o', none⟩ : Addr).add j = ⟨b, o' + j, none⟩ := by unfold Addr.add; split <;> simp_all
        rw [ha, hc j hj1, hj2]
        simpa [strV] using hu
    have hmul : (l.length + m.length) * i.bytes ≤ 2000000 * 1024 := Nat.mul_le_mul (by omega) hb
    refine wpList_append_own _ hgd s x _ ho B _ i (.string ⟨#[]⟩) 1 i.bytes elS.sl hi1 hi2.1 hi2.2 rfl elS.one (by omega) v l.length (l.map strV) hs (own_row hown) ad m.length c (m.map strV) hx (by simp) hcells (by intro u hu; obtain ⟨y, _, rfl⟩ := List.mem_map.1 hu; rfl) (by unfold maxLen; omega) (by omega) hB ?_
    intro v' w' h2 h3 _
    refine h v' w' ?_ h3
    unfold Own
    rw [List.length_append, List.map_append]
    exact h2

theorem Rd.take {w : World} {A : Option Addr} {l : List Bs} (h : Ks.Rd w A l) (j : Nat) : Ks.Rd w A (l.take j) := fun h0 => by
  rw [List.length_take] at h0
  obtain ⟨b, o, e, hlt, hc⟩ := h (by omega)
  exact ⟨b, o, e, hlt, fun i hi => by rw [List.getElem_take]; exact hc i (by rw [List.length_take] at hi; omega)⟩
theorem Rd.drop {w : World} {g : Nat} {l : List Bs} (h : Ks.Rd w (some ⟨g, 0, none⟩) l) (j cap : Nat) (hcap : l.length ≤ cap) : Ks.Rd w (if cap = j then some ⟨g, 0, none⟩ else some ⟨g, j, none⟩) (l.drop j) := fun h0 => by
  rw [List.length_drop] at h0
  obtain ⟨b, o, e, hlt, hc⟩ := h (by omega)
  simp only [Option.some.injEq, Addr.mk.injEq, and_true] at e
  obtain ⟨rfl, rfl⟩ := e
  refine ⟨g, j, by rw [if_neg (by omega)], hlt, fun i hi => ?_⟩
  rw [List.length_drop] at hi
  have := hc (j + i) (by omega)
  rw [Nat.zero_add] at this
  rw [this, List.getElem_drop]
theorem Rd.grown {w w' : World} {A : Option Addr} {l : List Bs} {row : Option Nat} (h : Ks.Rd w A l) (hg : w.grownBy w' row) (hb : ∀ b o, A = some ⟨b, o, none⟩ → some b ≠ row) : Ks.Rd w' A l := fun h0 => by
  obtain ⟨b, o, e, hlt, hc⟩ := h h0
  refine ⟨b, o, e, Nat.lt_of_lt_of_le hlt hg.size, fun i hi => ?_⟩
  rw [World.cell?_of_block (hg.block b hlt (hb b o e))]
  exact hc i hi
theorem ne_own {B g : Nat} {w : World} {v : Value} {m : List Bs} (hown : Own B w v m) (hg : g < B) : ∀ b o, (some ⟨g, 0, none⟩ : Option Addr) = some ⟨b, o, none⟩ → some b ≠ v.ownBlock := fun b o e e' => by
  have := ((own_row hown).lt b e'.symm).1
  simp only [Option.some.injEq, Addr.mk.injEq, and_true] at e
  omega
theorem Rd.drop_lt {w : World} {g : Nat} {l : List Bs} (h : Ks.Rd w (some ⟨g, 0, none⟩) l) (j cap : Nat) (hcap : l.length ≤ cap) (hj : j < l.length) : Ks.Rd w (some ⟨g, j, none⟩) (l.drop j) := by
  have := Rd.drop h j cap hcap
  rwa [if_neg (by omega)] at this
theorem grown_of_drewN {w w' : World} {n : Nat} {row : Option Nat} (h : (w.drewN n).grownBy w' row) : w.grownBy w' row := ⟨h.os, h.tape, h.output, h.size, h.block⟩
theorem less_yes {a b : Bs} (h : a < b) : Op.bytesLess a b = true := by rw [bytesLess_eq]; simpa using h
theorem less_no {a b : Bs} (h : ¬ a < b) : Op.bytesLess a b = false := by rw [bytesLess_eq]; simpa using h
def rtagsPost (w : World) (l : List Bs) : Ending → World → Prop := fun e w' => ∃ v, e = .returned (.tuple #[v, .int .i64 (tagsE l)]) ∧ Own w.heap.size w' v (tagsV l) ∧ Below w.heap.size w w'
theorem own_cases {B : Nat} {w : World} {v : Value} {l : List Bs} (h : Own B w v l) (hn : l = [] → v = .slice none 0 0) : (l = [] ∧ v = .slice none 0 0) ∨ ∃ g cap, v = .slice (some ⟨g, 0, none⟩) l.length cap ∧ l.length ≤ cap ∧ 0 < l.length ∧ B ≤ g := by
  by_cases hl : l = []
  · exact Or.inl ⟨hl, hn hl⟩
  · rcases h.2 with ⟨_, h0⟩ | ⟨g, cap, cur, hv, hB, hg, hc, _⟩
    · exact absurd (List.eq_nil_of_length_eq_zero h0) hl
    · exact Or.inr ⟨g, cap, hv, hc, List.length_pos_iff.2 hl, hB⟩

set_option maxRecDepth 100000 in
set_option maxHeartbeats 2000000 in
theorem rtags_any (A : Option Addr) (c : Nat) (l : List Bs) (w : World) (hA : Rd w A l) (hl : l.length ≤ 1000) (hx : ∀ x ∈ l, x.length ≤ 1000000) :
    Calls Tryd.prog 30 #[.slice A l.length c] w (rtagsPost w l) := by
  have HX := Lib.hid hx; clear hx
  go_enter Tryd.func30, Tryd.ntmps30
  go_wp2_with fail
  go_loopw [4, 5, 6, 7] (fun v i _ _ wr => ∃ k : Nat, k ≤ l.length ∧ i = .int .i64 k ∧ Own w.heap.size wr v (tagsL (l.take k)) ∧ (tagsL (l.take k) = [] → v = .slice none 0 0) ∧ (l.take k).all validTagL = true ∧ Below w.heap.size w wr) (fun _ i _ _ _ => l.length - (intOf i).toNat)
  case atStart => exact ⟨0, Nat.zero_le _, rfl, own_nil _ _, fun _ => rfl, rfl, Below.refl _ _⟩
  case round =>
    obtain ⟨k, hk, rfl, hown, hnil, hall, hbel⟩ := hrel
    have HA := Lib.hid hall; clear hall
    have hsz := hbel.size
    have hRd := hA.below hbel (Nat.le_refl _)
    have HB := Lib.hid hbel; clear hbel
    have hal : (tagsL (l.take k)).length ≤ 1000 := by have := tags_len_le (l.take k); have := List.length_take_le k l; omega
    have HT := fun (h : k < l.length) => tags_take h
    obtain ⟨acc, hacc⟩ : ∃ acc, acc = tagsL (l.take k) := ⟨_, rfl⟩
    rw [← hacc] at hown hnil hal HT
    have HTT := Lib.hid HT; clear HT
    have HACC := Lib.hid hacc; clear hacc
    have HO := Lib.hid hown; clear hown
    have HN := Lib.hid hnil; clear hnil
    obtain ⟨wo, rfl⟩ : ∃ wo : World, wo = wr := ⟨_, rfl⟩
    by_cases hlt : k < l.length
    · obtain ⟨b1, o1, rfl, hb1, hc1⟩ := hRd.at_ hlt
      have i1 : (k : Int) < l.length := by omega
      have hxl := HX.out _ (List.getElem_mem hlt)
      have HINS := Lib.hid (HTT.out hlt)
      obtain ⟨x, hxx⟩ : ∃ x, x = l[k] := ⟨_, rfl⟩
      rw [← hxx] at hc1 hxl HINS
      have HXX := Lib.hid hxx; clear hxx
      have HV := Lib.hid (fun W => rvalidTag_any ⟨x.toArray⟩ W (by unfold maxLen; show x.toArray.size ≤ _; simp; omega))
      have hvs : validTagS ⟨x.toArray⟩ = validTagL x := rfl
      by_cases hv : validTagL x = true
      · have HVV := Lib.hid (hvs.trans hv)
        have HF := Lib.hid (all_next hlt HA.out (by rw [← HXX.out]; exact hv))
        clear hv hvs
        rcases own_cases HO.out HN.out with ⟨rfl, rfl⟩ | ⟨g, cap, rfl, hcap, hpos, hBg⟩
        · have HI : Hid (ins x [] = [x]) := rfl
          clear hal
          go_wp2_with fail
          refine (HV.out _).mono ?_
          rintro e w2 ⟨rfl, rfl⟩
          rw [HVV.out]
          go_wp2_with fail
          go_loopw [6] (fun i wr => i = .int .i64 0 ∧ ∃ n, wr = wo.drewN n) (fun _ _ => 0)
          case atStart => exact ⟨rfl, 0, rfl⟩
          case round =>
            obtain ⟨rfl, nw, rfl⟩ := hrel
            go_wp2_with fail
            go_quiet (fail)
            go_wp2_with fail
            go_quiet (fail)
            go_wp2_with (at_builtin; (refine wpList_from rfl _ _ rfl rfl (own_nil wo.heap.size _) ([] : List Bs) none 0 rfl (fun _ => rfl) (Ks.Rd.nil _ _) (by simp) (by simp) (Nat.le_refl _) ?_))
            intro v1 w1 hown1 hg1
            have H1 : Hid (Own wo.heap.size w1 v1 []) := hown1
            have G1 : Hid (wo.grownBy w1 none) := grown_of_drewN hg1
            have hz1 : wo.heap.size ≤ w1.heap.size := hg1.size
            have hcx : w1.cell? ⟨b1, o1 + k, none⟩ = some (.string ⟨x.toArray⟩) := by rw [World.cell?_of_block (G1.out.block b1 hb1 (by simp))]; exact hc1
            have HB1 := Lib.hid (HB.out.grown G1.out hsz (fun j hj => by cases hj))
            clear hc1 hown1 hg1
            go_wp2_with (at_builtin; (refine wpList_app rfl _ _ elS rfl rfl (own_row H1.out) #[.string ⟨x.toArray⟩] rfl (by simp; rfl) (by simp) (by simp) hz1 ?_))
            intro v2 w2 hown2 hg2
            have H2 : Hid (Own wo.heap.size w2 v2 [x]) := by
              show Own _ _ _ _
              unfold Own
              exact hown2
            have hz2 : wo.heap.size ≤ w2.heap.size := by have := hg2.size; omega
            have HB2 := Lib.hid (HB1.out.grown hg2 (by omega) (fun j hj => by have := ((own_row H1.out).lt j hj).1; omega))
            clear hown2 hg2 hcx
            go_wp2_with (at_builtin; (refine wpList_from rfl _ _ rfl rfl H2.out ([] : List Bs) none 0 rfl (fun _ => rfl) (Ks.Rd.nil _ _) (by simp) (by simp) hz2 ?_))
            all_goals
              intro v3 w3 hown3 hg3
              have H3 : Hid (Own w.heap.size w3 v3 (tagsL (l.take (k + 1)))) := by
                show Own _ _ _ _
                rw [HINS.out, HI.out]
                exact own_base hown3 hsz
              have HB3 := Lib.hid (HB2.out.grown hg3 (by omega) (fun j hj => by have := ((own_row H2.out).lt j hj).1; omega))
              have HNE : Hid (tagsL (l.take (k + 1)) = [] → v3 = .slice none 0 0) := by
                show _ → _
                intro e
                rw [HINS.out, HI.out] at e
                simp at e
              clear hown3 hg3
              go_wp2_with fail
              go_roundw
              case rel => exact ⟨k + 1, by omega, by go_num, H3.out, HNE.out, HF.out, HB3.out⟩
              case measure => simp [intOf]; omega
        · have hRA := Rd.of_own (own_row HO.out)
          have HRA := Lib.hid hRA
          go_wp2_with fail
          refine (HV.out _).mono ?_
          rintro e w2 ⟨rfl, rfl⟩
          rw [HVV.out]
          go_wp2_with fail
          go_loopw [6] (fun i wr => ∃ j : Nat, j ≤ acc.length ∧ i = .int .i64 j ∧ (∃ n, wr = wo.drewN n) ∧ ∀ i (h : i < acc.length), i < j → acc[i] < x) (fun i _ => acc.length - (intOf i).toNat)
          case atStart => exact ⟨0, Nat.zero_le _, rfl, ⟨0, rfl⟩, fun i h hi => by omega⟩
          case round =>
            obtain ⟨j, hj, rfl, ⟨nw, rfl⟩, hls⟩ := hrel
            have HLS := Lib.hid hls; clear hls
            by_cases hjl : j < acc.length
            · obtain ⟨b2, o2, e2, hb2, hc2⟩ := HRA.out.at_ hjl
              simp only [Option.some.injEq, Addr.mk.injEq, and_true] at e2
              obtain ⟨rfl, rfl⟩ := e2
              rw [Nat.zero_add] at hc2
              have i2 : (j : Int) < acc.length := by omega
              have q1 : (j == acc.length) = false := by rw [beq_eq_false_iff_ne]; omega
              have q2 : ((j : Int) == (acc.length : Int)) = false := by rw [beq_eq_false_iff_ne]; omega
              by_cases hle : acc[j] < x
              · have hb := less_yes hle
                have HLE := Lib.hid hle; clear hle
                go_wp2_with fail
                go_quiet (fail)
                go_wp2_with fail
                go_roundw
                case rel => exact ⟨j + 1, by omega, by go_num, (by first | exact ⟨_, rfl⟩ | exact ⟨_, by rw [World.drewN_drewN]⟩), fun i h hi => by
                  rcases Nat.lt_or_ge i j with h' | h'
                  · exact HLS.out i h h'
                  · have : i = j := by omega
                    subst this; exact HLE.out⟩
                case measure => simp [intOf]; omega
              · have hb := less_no hle
                by_cases heq : acc[j] = x
                · have hbe : (!(acc[j] == x)) = false := by rw [heq]; simp
                  have HI := Lib.hid (ins_there acc x j hjl HLS.out heq)
                  clear hle heq
                  go_wp2_with fail
                  go_quiet (fail)
                  go_wp2_with fail
                  go_quiet (fail)
                  go_wp2_with fail
                  go_roundw
                  case rel => exact ⟨k + 1, by omega, by go_num, by rw [HINS.out, HI.out]; exact HO.out, by rw [HINS.out, HI.out]; exact HN.out, HF.out, below_drewN HB.out _⟩
                  case measure => simp [intOf]; omega
                · have hbe : (!(acc[j] == x)) = true := by simpa using heq
                  have HI := Lib.hid (ins_at acc x j hj HLS.out (fun _ => ⟨hle, heq⟩))
                  clear hle heq
                  go_wp2_with fail
                  go_quiet (fail)
                  go_wp2_with fail
                  go_quiet (fail)
                  go_wp2_with (at_builtin; (refine wpList_from rfl _ _ rfl rfl (own_nil wo.heap.size _) (acc.take j) (some ⟨g, 0, none⟩) cap (by rw [List.length_take, Nat.min_eq_left hj]; rfl) (fun h => by cases h) (Rd.take HRA.out j) (by simp) (by rw [List.length_take]; omega) (Nat.le_refl _) ?_))
                  intro v1 w1 hown1 hg1
                  have H1 : Hid (Own wo.heap.size w1 v1 (acc.take j)) := hown1
                  have G1 : Hid (wo.grownBy w1 none) := grown_of_drewN hg1
                  have hz1 : wo.heap.size ≤ w1.heap.size := hg1.size
                  have hcx : w1.cell? ⟨b1, o1 + k, none⟩ = some (.string ⟨x.toArray⟩) := by rw [World.cell?_of_block (G1.out.block b1 hb1 (by simp))]; exact hc1
                  have hR1 := Lib.hid (Rd.grown HRA.out G1.out (fun b o e => by simp))
                  have HB1 := Lib.hid (HB.out.grown G1.out hsz (fun j hj => by cases hj))
                  clear hc1 hown1 hg1
                  go_wp2_with (at_builtin; (refine wpList_app rfl _ _ elS rfl rfl (own_row H1.out) #[.string ⟨x.toArray⟩] rfl (by simp; rfl) (by rw [List.length_take]; omega) (by simp) hz1 ?_))
                  intro v2 w2 hown2 hg2
                  have H2 : Hid (Own wo.heap.size w2 v2 (acc.take j ++ [x])) := by
                    show Own _ _ _ _
                    unfold Own
                    rw [List.length_append, List.map_append, List.map_take, List.length_take, Nat.min_eq_left hj]
                    exact hown2
                  have hz2 : wo.heap.size ≤ w2.heap.size := by have := hg2.size; omega
                  have hR2 := Lib.hid (Rd.grown hR1.out hg2 (ne_own H1.out hb2))
                  have HB2 := Lib.hid (HB1.out.grown hg2 (by omega) (fun j hj => by have := ((own_row H1.out).lt j hj).1; omega))
                  clear hown2 hg2 hcx
                  go_wp2_with (at_builtin; (refine wpList_from rfl _ _ rfl rfl H2.out (acc.drop j) (some ⟨g, j, none⟩) (cap - j) (by rw [List.length_drop]; rfl) (fun h => by cases h) (Rd.drop_lt hR2.out j cap hcap hjl) (by simp; omega) (by rw [List.length_drop]; omega) hz2 ?_))
                  intro v3 w3 hown3 hg3
                  have H3 : Hid (Own w.heap.size w3 v3 (tagsL (l.take (k + 1)))) := by
                    show Own _ _ _ _
                    rw [HINS.out, HI.out]
                    exact own_base (by rw [List.append_assoc]; exact hown3) hsz
                  have HB3 := Lib.hid (HB2.out.grown hg3 (by omega) (fun j hj => by have := ((own_row H2.out).lt j hj).1; omega))
                  have HNE : Hid (tagsL (l.take (k + 1)) = [] → v3 = .slice none 0 0) := by
                    show _ → _
                    intro e
                    rw [HINS.out, HI.out] at e
                    simp at e
                  clear hown3 hg3
                  go_wp2_with fail
                  go_roundw
                  case rel => exact ⟨k + 1, by omega, by go_num, H3.out, HNE.out, HF.out, HB3.out⟩
                  case measure => simp [intOf]; omega
            · obtain rfl : j = acc.length := by omega
              have HI : Hid (ins x acc = acc ++ [x]) := by
                show _ = _
                have := ins_at acc x acc.length (Nat.le_refl _) HLS.out (fun h => absurd h (Nat.lt_irrefl _))
                rwa [List.take_length, List.drop_length, List.append_nil] at this
              obtain ⟨b2, o2, e2, hb2, _⟩ := HRA.out.at_ hpos
              simp only [Option.some.injEq, Addr.mk.injEq, and_true] at e2
              obtain ⟨rfl, rfl⟩ := e2
              have d1 : decide ((acc.length : Int) < (acc.length : Int)) = false := by simp
              have d2 : decide (acc.length < acc.length) = false := by simp
              have q1 : (acc.length == acc.length) = true := by simp
              have q2 : ((acc.length : Int) == (acc.length : Int)) = true := by simp
              clear hjl
              go_wp2_with fail
              go_quiet (fail)
              go_wp2_with fail
              go_quiet (fail)
              go_wp2_with (at_builtin; (refine wpList_from rfl _ _ rfl rfl (own_nil wo.heap.size _) acc (some ⟨g, 0, none⟩) cap rfl (fun h => by cases h) HRA.out (by simp) (by omega) (Nat.le_refl _) ?_))
              intro v1 w1 hown1 hg1
              have H1 : Hid (Own wo.heap.size w1 v1 (acc)) := hown1
              have G1 : Hid (wo.grownBy w1 none) := grown_of_drewN hg1
              have hz1 : wo.heap.size ≤ w1.heap.size := hg1.size
              have hcx : w1.cell? ⟨b1, o1 + k, none⟩ = some (.string ⟨x.toArray⟩) := by rw [World.cell?_of_block (G1.out.block b1 hb1 (by simp))]; exact hc1
              have hR1 := Lib.hid (Rd.grown HRA.out G1.out (fun b o e => by simp))
              have HB1 := Lib.hid (HB.out.grown G1.out hsz (fun j hj => by cases hj))
              clear hc1 hown1 hg1
              go_wp2_with (at_builtin; (refine wpList_app rfl _ _ elS rfl rfl (own_row H1.out) #[.string ⟨x.toArray⟩] rfl (by simp; rfl) (by omega) (by simp) hz1 ?_))
              intro v2 w2 hown2 hg2
              have H2 : Hid (Own wo.heap.size w2 v2 (acc ++ [x])) := by
                show Own _ _ _ _
                unfold Own
                rw [List.length_append, List.map_append]
                exact hown2
              have hz2 : wo.heap.size ≤ w2.heap.size := by have := hg2.size; omega
              have hR2 := Lib.hid (Rd.grown hR1.out hg2 (ne_own H1.out hb2))
              have HB2 := Lib.hid (HB1.out.grown hg2 (by omega) (fun j hj => by have := ((own_row H1.out).lt j hj).1; omega))
              clear hown2 hg2 hcx
              go_wp2_with (at_builtin; (refine wpList_from rfl _ _ rfl rfl H2.out ([] : List Bs) _ _ rfl (fun h => by first | cases h | (revert h; split <;> (intro h; cases h))) (Ks.Rd.nil _ _) (by simp; omega) (by simp) hz2 ?_))
              all_goals
                intro v3 w3 hown3 hg3
                have H3 : Hid (Own w.heap.size w3 v3 (tagsL (l.take (k + 1)))) := by
                  show Own _ _ _ _
                  rw [HINS.out, HI.out]
                  exact own_base hown3 hsz
                have HB3 := Lib.hid (HB2.out.grown hg3 (by omega) (fun j hj => by have := ((own_row H2.out).lt j hj).1; omega))
                have HNE : Hid (tagsL (l.take (k + 1)) = [] → v3 = .slice none 0 0) := by
                  show _ → _
                  intro e
                  rw [HINS.out, HI.out] at e
                  simp at e
                clear hown3 hg3
                go_wp2_with fail
                go_roundw
                case rel => exact ⟨k + 1, by omega, by go_num, H3.out, HNE.out, HF.out, HB3.out⟩
                case measure => simp [intOf]; omega
      · have hv' : validTagL x = false := by simpa using hv
        have HVV := Lib.hid (hvs.trans hv')
        have HR := Lib.hid (tags_bad hlt (by rw [← HXX.out]; exact hv'))
        clear hv hv' hvs
        go_wp2_with fail
        refine (HV.out _).mono ?_
        rintro e w2 ⟨rfl, rfl⟩
        rw [HVV.out]
        go_wp2_with fail
        go_ret2
        exact ⟨_, ret_vi rfl HR.out.1.symm, by rw [HR.out.2]; exact own_nil _ _, HB.out⟩
    · obtain rfl : k = l.length := by omega
      have hnn : ¬ (l.length : Int) < l.length := by omega
      have e1 := HA.out
      have e2 := HACC.out
      rw [List.take_length] at e1 e2
      have hl1 := fun W => len_own 26 3 Tryd.underlying26 (own_row HO.out) W
      by_cases h16 : 16 < acc.length
      · have HR := Lib.hid (tags_long e1 (by rw [← e2]; exact h16))
        clear e1 e2 hlt
        go_wp2_with fail
        go_ret2
        exact ⟨_, ret_vi rfl HR.out.1.symm, by rw [HR.out.2]; exact own_nil _ _, HB.out⟩
      · have HR := Lib.hid (tags_good e1 (by rw [← e2]; exact h16))
        have HE := Lib.hid e2
        clear e1 e2 hlt
        go_wp2_with fail
        go_ret2
        exact ⟨_, ret_vi rfl HR.out.1.symm, by rw [HR.out.2, ← HE.out]; exact HO.out, HB.out⟩
end Go.Proofs.YtjieiakgikhofaaDoor.Kz
