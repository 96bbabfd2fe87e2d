/- Proves that the law's check of the chapter's examples returns true. No condition. -/
import Derived.Test.YtmphielkohnpgaaDh
import Derived.Test.YtmphielkohnpgaaDe
import Derived.Test.YtmphielkohnpgaaDf
import Derived.Lib.SlBytesConst
namespace Go.Proofs.Ytmphielkohnpgaa.Dk
open Go.RowKit Vm Ap Vw Va Gc Fm Fw Mi Mb Fr Dm Dd Dn De Dh Dl Fo Da Df

abbrev Up (N : Nat) : Nat → Prop := fun j => N ≤ j
theorem st_eq {a b : St} (h1 : a.held = b.held) (h2 : a.shut = b.shut) : a = b := by cases a; cases b; simp at h1 h2; rw [h1, h2]
theorem kfeed {N g : Nat} {m : Int} {s : St} (w : World) (hN : N ≤ w.heap.size) (hd : Dec (Up N) w g m s) (l : Bs) (cs : Array Value) (k : Nat) (e : Int) (s' : St) (hcs : (l.map byteV).toArray = cs) (hk : l.length = k) (he : (feedE s : Int) = e) (hs' : feed s l = s') (hs : s.held.length ≤ 100000000) (hl : l.length ≤ 100000000) :
    Calls Try.prog 13 #[.pointer (some ⟨g, 0, none⟩), .slice (some ⟨w.heap.size, 0, none⟩) k k] (w.alloc (.cells cs 5)) fun r w' => r = .returned (.int .i64 e) ∧ Dec (Up N) w' g m s' ∧ Below N w w' ∧ N ≤ w'.heap.size := by
  subst hcs; subst he; subst hs'
  refine (feed_any (hd.below (below_new w _) (Nat.le_refl _)) _ l k k hk (Rb.lit w l (by omega)) (fun e => by cases e) hs hl).mono ?_
  rintro r w' ⟨rfl, h1, h2⟩
  have hb : Below N (w.alloc (.cells (l.map byteV).toArray 5)) w' := h2.below (fun _ hf => hf) (by simp; omega)
  have hz := h2.size
  have hz2 := (below_new w (.cells (l.map byteV).toArray 5)).size
  exact ⟨rfl, h1.mono (fun j _ hf => by rcases hf with hf | hf; exact hf; show N ≤ j; omega), ((below_new w _).mono hN).trans hb, by omega⟩
theorem knext {N g : Nat} {m : Int} {s : St} (w : World) (hN : N ≤ w.heap.size) (hm : okM m) (hd : Dec (Up N) w g m s) (cd : UInt8) (er : Nat) (x no : Int) (s' : St) (hs : s.held.length ≤ 100000000) (hG : nxG m s = (cd, [], er)) (hS : nxS m s = s') (hx : (cd.toNat : Int) = x) (hno : (er : Int) = no) :
    Calls Try.prog 26 #[.pointer (some ⟨g, 0, none⟩), .agg #[.int .u8 x, .slice none 0 0], .int .i64 no] w fun r w' => r = .returned (.bool true) ∧ Dec (Up N) w' g m s' ∧ Below N w w' ∧ N ≤ w'.heap.size := by
  subst hS
  refine (next_true hm hd hs none [] 0 0 cd x no er rfl (Rb.nil _ _) (fun a e => by cases e) hG hx hno).mono ?_
  rintro r w' ⟨rfl, h1, h2⟩
  exact ⟨rfl, h1, h2.below (fun _ hf => hf) hN, Nat.le_trans hN h2.size⟩
theorem knext_ab {N g : Nat} {m : Int} {s : St} (w : World) (hN : N ≤ w.heap.size) (hm : okM m) (hd : Dec (Up N) w g m s) (s' : St) (hs : s.held.length ≤ 100000000) (hG : nxG m s = (9, [97, 98], 0)) (hS : nxS m s = s') :
    Calls Try.prog 26 #[.pointer (some ⟨g, 0, none⟩), .agg #[.int .u8 9, .slice (some ⟨w.heap.size, 0, none⟩) 2 2], .int .i64 0] (w.alloc (.cells #[.int .u8 97, .int .u8 98] 5 (2, 3))) fun r w' => r = .returned (.bool true) ∧ Dec (Up N) w' g m s' ∧ Below N w w' ∧ N ≤ w'.heap.size := by
  subst hS
  have hb0 : Below w.heap.size w (w.alloc (.cells #[.int .u8 97, .int .u8 98] 5 (2, 3))) := below_new w _
  refine (next_true hm (hd.tight.below hb0 (Nat.le_refl _)) hs (some ⟨w.heap.size, 0, none⟩) [97, 98] 2 2 9 9 0 0 rfl (Rb.marked w [97, 98] (2, 3)) (fun a e _ hf => by injection e with e; subst e; have := hf.2; simp at this) hG rfl rfl).mono ?_
  rintro r w' ⟨rfl, h1, h2⟩
  exact ⟨rfl, h1.mono (fun _ _ hf => hf.1), (hb0.mono hN).trans (h2.below (fun _ hf => hf.1) (by simp; omega)), Nat.le_trans (by simp; omega) h2.size⟩
theorem kneed {N g : Nat} {m : Int} {s : St} (w : World) (hN : N ≤ w.heap.size) (hm : okM m) (hd : Dec (Up N) w g m s) (hs : s.held.length ≤ 100000000) (x : Int) (hx : (need m s : Int) = x) :
    Calls Try.prog 19 #[.pointer (some ⟨g, 0, none⟩)] w fun r w' => r = .returned (.int .i64 x) ∧ Dec (Up N) w' g m s ∧ Below N w w' ∧ N ≤ w'.heap.size := by
  subst hx
  refine (need_any hm hd hs).mono ?_
  rintro r w' ⟨rfl, hb⟩
  exact ⟨rfl, hd.below hb (Nat.le_refl _), hb.mono hN, Nat.le_trans hN hb.size⟩
theorem kheld {N g : Nat} {m : Int} {s : St} (w : World) (hN : N ≤ w.heap.size) (hd : Dec (Up N) w g m s) (x : Int) (hx : (s.held.length : Int) = x) :
    Calls Try.prog 18 #[.pointer (some ⟨g, 0, none⟩)] w fun r w' => r = .returned (.int .i64 x) ∧ Dec (Up N) w' g m s ∧ Below N w w' ∧ N ≤ w'.heap.size := by
  subst hx
  refine (held_any hd).mono ?_
  rintro r w' ⟨rfl, rfl⟩
  exact ⟨rfl, hd, Below.refl _ _, hN⟩
theorem kclosed {N g : Nat} {m : Int} {s : St} (w : World) (hN : N ≤ w.heap.size) (hd : Dec (Up N) w g m s) (x : Bool) (hx : s.shut = x) :
    Calls Try.prog 21 #[.pointer (some ⟨g, 0, none⟩)] w fun r w' => r = .returned (.bool x) ∧ Dec (Up N) w' g m s ∧ Below N w w' ∧ N ≤ w'.heap.size := by
  subst hx
  refine (closed_any hd).mono ?_
  rintro r w' ⟨rfl, rfl⟩
  exact ⟨rfl, hd, Below.refl _ _, hN⟩
theorem lit_rf (w : World) (cs : Array Value) (fs : List Frm) (t : TypeId) (hcs : cs.toList = frL fs) (hl : fs.length ≤ 1000) : Rf (w.alloc (.cells cs t)) (some ⟨w.heap.size, 0, none⟩) fs := by
  have := Mine.lit (sz := 2) w cs t fs.length (by rw [← Array.length_toList, hcs, frL_len]) (by unfold maxLen; omega)
  rw [hcs] at this
  exact rf_mine this
theorem lit_ri (w : World) (cs : Array Value) (es : List Nat) (t : TypeId) (hcs : cs.toList = es.map errV) (hl : es.length ≤ 1000) : Ri (w.alloc (.cells cs t)) (some ⟨w.heap.size, 0, none⟩) es := by
  have := Mine.lit (sz := 1) w cs t es.length (by rw [← Array.length_toList, hcs]; simp) (by unfold maxLen; omega)
  rw [hcs] at this
  exact ri_mine this
theorem kall3 (w : World) (a b c d : Nat) (ha : w.heap.size = a) (hb : w.heap.size + 1 = b) (hc : w.heap.size + 1 + 1 = c) (hd : w.heap.size + 1 + 1 + 1 = d) (W : World)
    (hW : W = (((w.alloc (.cells #[.int .u8 1, .int .u8 5, .int .u8 0, .int .u8 2, .int .u8 6, .int .u8 97, .int .u8 2] 5)).alloc (.cells #[.int .u8 97] 5 (1, 2))).alloc (.cells #[.int .u8 5, .slice none 0 0, .int .u8 0, .slice none 0 0, .int .u8 6, .slice (some ⟨b, 0, none⟩) 1 1] 39)).alloc (.cells #[.int .i64 0, .int .i64 6, .int .i64 0] 3)) :
    Calls Try.prog 24 #[.slice (some ⟨a, 0, none⟩) 7 7, .int .i64 9, .slice (some ⟨c, 0, none⟩) 3 3, .slice (some ⟨d, 0, none⟩) 3 3] W (boolOf true W) := by
  have h1 := Rb.lit w [1, 5, 0, 2, 6, 97, 2] (by simp)
  have h2 := Rb.marked (w.alloc (.cells #[.int .u8 1, .int .u8 5, .int .u8 0, .int .u8 2, .int .u8 6, .int .u8 97, .int .u8 2] 5)) [97] (1, 2)
  have h3 := lit_rf ((w.alloc (.cells #[.int .u8 1, .int .u8 5, .int .u8 0, .int .u8 2, .int .u8 6, .int .u8 97, .int .u8 2] 5)).alloc (.cells #[.int .u8 97] 5 (1, 2))) #[.int .u8 5, .slice none 0 0, .int .u8 0, .slice none 0 0, .int .u8 6, .slice (some ⟨b, 0, none⟩) 1 1] [⟨5, none, 0, []⟩, ⟨0, none, 0, []⟩, ⟨6, some ⟨b, 0, none⟩, 1, [97]⟩] 39 rfl (by simp)
  have h4 := lit_ri (((w.alloc (.cells #[.int .u8 1, .int .u8 5, .int .u8 0, .int .u8 2, .int .u8 6, .int .u8 97, .int .u8 2] 5)).alloc (.cells #[.int .u8 97] 5 (1, 2))).alloc (.cells #[.int .u8 5, .slice none 0 0, .int .u8 0, .slice none 0 0, .int .u8 6, .slice (some ⟨b, 0, none⟩) 1 1] 39)) #[.int .i64 0, .int .i64 6, .int .i64 0] [0, 6, 0] 3 rfl (by simp)
  have h1' := ((h1.below (below_new _ (.cells #[.int .u8 97] 5 (1, 2))) (Nat.le_refl _)).below (below_new _ (.cells #[.int .u8 5, .slice none 0 0, .int .u8 0, .slice none 0 0, .int .u8 6, .slice (some ⟨b, 0, none⟩) 1 1] 39)) (Nat.le_refl _)).below (below_new _ (.cells #[.int .i64 0, .int .i64 6, .int .i64 0] 3)) (Nat.le_refl _)
  have h2' := (h2.below (below_new _ (.cells #[.int .u8 5, .slice none 0 0, .int .u8 0, .slice none 0 0, .int .u8 6, .slice (some ⟨b, 0, none⟩) 1 1] 39)) (Nat.le_refl _)).below (below_new _ (.cells #[.int .i64 0, .int .i64 6, .int .i64 0] 3)) (Nat.le_refl _)
  have h3' := rf_below h3 (below_new _ (.cells #[.int .i64 0, .int .i64 6, .int .i64 0] 3)) (Nat.le_refl _)
  change Rb ((((w.alloc (.cells #[.int .u8 1, .int .u8 5, .int .u8 0, .int .u8 2, .int .u8 6, .int .u8 97, .int .u8 2] 5)).alloc (.cells #[.int .u8 97] 5 (1, 2))).alloc (.cells #[.int .u8 5, .slice none 0 0, .int .u8 0, .slice none 0 0, .int .u8 6, .slice (some ⟨b, 0, none⟩) 1 1] 39)).alloc (.cells #[.int .i64 0, .int .i64 6, .int .i64 0] 3)) _ _ at h1'
  change Rb ((((w.alloc (.cells #[.int .u8 1, .int .u8 5, .int .u8 0, .int .u8 2, .int .u8 6, .int .u8 97, .int .u8 2] 5)).alloc (.cells #[.int .u8 97] 5 (1, 2))).alloc (.cells #[.int .u8 5, .slice none 0 0, .int .u8 0, .slice none 0 0, .int .u8 6, .slice (some ⟨b, 0, none⟩) 1 1] 39)).alloc (.cells #[.int .i64 0, .int .i64 6, .int .i64 0] 3)) _ _ at h2'
  rw [← hW] at h1' h2' h3' h4
  simp only [World.size_alloc] at h1' h2' h3' h4
  rw [ha] at h1'
  rw [hb] at h2'
  rw [hc] at h3'
  rw [hd] at h4
  exact all_true (some ⟨a, 0, none⟩) [1, 5, 0, 2, 6, 97, 2] 7 7 9 W rfl h1' (fun e => by cases e) (by simp) (by unfold okM; omega) (some ⟨c, 0, none⟩) (some ⟨d, 0, none⟩) [⟨5, none, 0, []⟩, ⟨0, none, 0, []⟩, ⟨6, some ⟨b, 0, none⟩, 1, [97]⟩] [0, 6, 0] 3 3 3 3
    ⟨h3', fun x hx => by
      simp only [List.mem_cons, List.not_mem_nil, or_false] at hx
      rcases hx with rfl | rfl | rfl
      · exact Rb.nil _ _
      · exact Rb.nil _ _
      · exact h2', h4⟩ (by unfold saysF; show ([(5, []), (0, []), (6, [97])] : List (UInt8 × Bs)) = _; decide +kernel) (by decide +kernel) rfl rfl
theorem kall1 (w : World) (a b c : Nat) (ha : w.heap.size = a) (hb : w.heap.size + 1 = b) (hc : w.heap.size + 1 + 1 = c) (W : World)
    (hW : W = ((w.alloc (.cells #[.int .u8 9, .int .u8 1] 5)).alloc (.cells #[.int .u8 0, .slice none 0 0] 39)).alloc (.cells #[.int .i64 5] 3)) :
    Calls Try.prog 24 #[.slice (some ⟨a, 0, none⟩) 2 2, .int .i64 3, .slice (some ⟨b, 0, none⟩) 1 1, .slice (some ⟨c, 0, none⟩) 1 1] W (boolOf true W) := by
  have h1 := Rb.lit w [9, 1] (by simp)
  have h3 := lit_rf (w.alloc (.cells #[.int .u8 9, .int .u8 1] 5)) #[.int .u8 0, .slice none 0 0] [⟨0, none, 0, []⟩] 39 rfl (by simp)
  have h4 := lit_ri ((w.alloc (.cells #[.int .u8 9, .int .u8 1] 5)).alloc (.cells #[.int .u8 0, .slice none 0 0] 39)) #[.int .i64 5] [5] 3 rfl (by simp)
  have h1' := (h1.below (below_new _ (.cells #[.int .u8 0, .slice none 0 0] 39)) (Nat.le_refl _)).below (below_new _ (.cells #[.int .i64 5] 3)) (Nat.le_refl _)
  have h3' := rf_below h3 (below_new _ (.cells #[.int .i64 5] 3)) (Nat.le_refl _)
  change Rb (((w.alloc (.cells #[.int .u8 9, .int .u8 1] 5)).alloc (.cells #[.int .u8 0, .slice none 0 0] 39)).alloc (.cells #[.int .i64 5] 3)) _ _ at h1'
  rw [← hW] at h1' h3' h4
  simp only [World.size_alloc] at h1' h3' h4
  rw [ha] at h1'
  rw [hb] at h3'
  rw [hc] at h4
  exact all_true (some ⟨a, 0, none⟩) [9, 1] 2 2 3 W rfl h1' (fun e => by cases e) (by simp) (by unfold okM; omega) (some ⟨b, 0, none⟩) (some ⟨c, 0, none⟩) [⟨0, none, 0, []⟩] [5] 1 1 1 1
    ⟨h3', fun x hx => by
      simp only [List.mem_cons, List.not_mem_nil, or_false] at hx
      rw [hx]; exact Rb.nil _ _, h4⟩ (by unfold saysF; decide +kernel) (by decide +kernel) rfl rfl
theorem kall0 (w : World) : Calls Try.prog 24 #[.slice none 0 0, .int .i64 3, .slice none 0 0, .slice none 0 0] w (boolOf true w) :=
  all_true none [] 0 0 3 w rfl (Rb.nil _ _) (fun _ => rfl) (by simp) (by unfold okM; omega) none none [] [] 0 0 0 0 ⟨fun h => by simp at h, fun x hx => by simp at hx, fun h => by simp at h⟩ (by unfold saysF; decide +kernel) (by decide +kernel) rfl rfl
theorem cel_at {w w' : World} {g N : Nat} {x y : Value} (h : Cel w g x y) (hb : Below N w w') (hg : g < N) : Cel w' g x y :=
  ⟨by rw [hb.cell (p := ⟨g, 0, none⟩) hg]; exact h.c0, by rw [hb.cell (p := ⟨g, 1, none⟩) hg]; exact h.c1, by rw [hb.frozen (p := ⟨g, 0, none⟩) hg]; exact h.f0, by rw [hb.frozen (p := ⟨g, 1, none⟩) hg]; exact h.f1⟩
theorem okM2 : okM 2 := by unfold okM; omega
set_option maxRecDepth 100000 in
set_option maxHeartbeats 8000000 in
theorem known_any (w : World) : Calls Try.prog 9 #[] w (boolOf true w) := by
  have kc := fun (w : World) (C : Array Value) (n c : Nat) => Lib.run_convert_bytes_const (P := Try.prog) w 29 5 C n c Try.underlying29 Try.underlying5
  have kc2 : ∀ (w : World) (o : Obj) (C : Array Value) (n c : Nat), (convert 29 29 (.slice (some ⟨w.heap.size + 1, 0, none⟩) n c)).run Try.prog ((w.alloc o).alloc (.cells C 5)) = .ok (.slice (some ⟨w.heap.size + 1, 0, none⟩) n c) ((w.alloc o).alloc (.cells C 5 (C.size, C.size + 1))) := fun w o C n c => by
    have := kc (w.alloc o) C n c
    simpa using this
  obtain ⟨w0, hw0⟩ : ∃ w0, w0 = w.alloc (.cells #[.int .u8 0, .slice none 0 0] 39) := ⟨_, rfl⟩
  have B0 : Below w.heap.size w w0 := by rw [hw0]; exact below_new _ _
  have ce0 : Cel w0 w.heap.size (.int .u8 0) (.slice none 0 0) := by rw [hw0]; exact Cel.new _ _ _ _
  have HB0 := Lib.hid B0; have CE := Lib.hid ce0
  obtain ⟨N, hN⟩ : ∃ N, N = w0.heap.size := ⟨_, rfl⟩
  have hbN : w.heap.size < N := by rw [hN]; exact ce0.lt
  have HNW := Lib.hid (new_any 2 w0)
  unfold newPost at HNW
  rw [← hN] at HNW
  have HNN := Lib.hid hN
  clear B0 ce0 hN
  go_enter Try.func9, Try.ntmps9
  go_wp2_with fail
  rw [← hw0]
  clear hw0
  refine HNW.out.mono ?_
  rintro e wq (⟨hm, g, rfl, hd, hb⟩ | ⟨hno, _, _⟩)
  case' inr => exact absurd okM2 hno
  case' inl =>
  have HDQ := Lib.hid hd
  have HBQ := Lib.hid hb
  have hz : N ≤ wq.heap.size := by rw [HNN.out]; exact hb.size
  obtain ⟨cx0, cx1, cu0, cu1⟩ := cel_at CE.out hb hbN
  clear hd hb hm
  go_wp2_with fail
  refine (knext _ hz okM2 HDQ.out 0 4 0 4 ⟨[], false⟩ (by simp) (by decide +kernel) (st_eq (by decide +kernel) (by decide +kernel)) rfl rfl).mono ?_
  rintro r wn ⟨rfl, hd, hb, hzn⟩
  replace HBQ := Lib.hid (HBQ.out.trans hb)
  replace HDQ := Lib.hid hd
  clear cx0 cx1 cu0 cu1 hz hd hb
  obtain ⟨cx0, cx1, cu0, cu1⟩ := cel_at CE.out HBQ.out hbN
  have hz := hzn
  clear hzn
  have hlw : w.heap.size < wn.heap.size := Nat.lt_of_lt_of_le hbN hz
  go_wp2_with fail
  refine (kneed _ hz okM2 HDQ.out (by simp) 1 (by decide +kernel)).mono ?_
  rintro r wn ⟨rfl, hd, hb, hzn⟩
  replace HBQ := Lib.hid (HBQ.out.trans hb)
  replace HDQ := Lib.hid hd
  clear hlw cx0 cx1 cu0 cu1 hz hd hb
  obtain ⟨cx0, cx1, cu0, cu1⟩ := cel_at CE.out HBQ.out hbN
  have hz := hzn
  clear hzn
  have hlw : w.heap.size < wn.heap.size := Nat.lt_of_lt_of_le hbN hz
  go_wp2_with fail
  refine (kfeed _ hz HDQ.out [3, 9] _ 2 0 ⟨[3, 9], false⟩ rfl rfl (by decide +kernel) (st_eq (by decide +kernel) (by decide +kernel)) (by simp) (by simp)).mono ?_
  rintro r wn ⟨rfl, hd, hb, hzn⟩
  replace HBQ := Lib.hid (HBQ.out.trans hb)
  replace HDQ := Lib.hid hd
  clear hlw cx0 cx1 cu0 cu1 hz hd hb
  obtain ⟨cx0, cx1, cu0, cu1⟩ := cel_at CE.out HBQ.out hbN
  have hz := hzn
  clear hzn
  have hlw : w.heap.size < wn.heap.size := Nat.lt_of_lt_of_le hbN hz
  go_wp2_with fail
  refine (knext _ hz okM2 HDQ.out 0 4 0 4 ⟨[3, 9], false⟩ (by simp) (by decide +kernel) (st_eq (by decide +kernel) (by decide +kernel)) rfl rfl).mono ?_
  rintro r wn ⟨rfl, hd, hb, hzn⟩
  replace HBQ := Lib.hid (HBQ.out.trans hb)
  replace HDQ := Lib.hid hd
  clear hlw cx0 cx1 cu0 cu1 hz hd hb
  obtain ⟨cx0, cx1, cu0, cu1⟩ := cel_at CE.out HBQ.out hbN
  have hz := hzn
  clear hzn
  have hlw : w.heap.size < wn.heap.size := Nat.lt_of_lt_of_le hbN hz
  go_wp2_with fail
  refine (kneed _ hz okM2 HDQ.out (by simp) 2 (by decide +kernel)).mono ?_
  rintro r wn ⟨rfl, hd, hb, hzn⟩
  replace HBQ := Lib.hid (HBQ.out.trans hb)
  replace HDQ := Lib.hid hd
  clear hlw cx0 cx1 cu0 cu1 hz hd hb
  obtain ⟨cx0, cx1, cu0, cu1⟩ := cel_at CE.out HBQ.out hbN
  have hz := hzn
  clear hzn
  have hlw : w.heap.size < wn.heap.size := Nat.lt_of_lt_of_le hbN hz
  go_wp2_with fail
  refine (kheld _ hz HDQ.out 2 (by simp)).mono ?_
  rintro r wn ⟨rfl, hd, hb, hzn⟩
  replace HBQ := Lib.hid (HBQ.out.trans hb)
  replace HDQ := Lib.hid hd
  clear hlw cx0 cx1 cu0 cu1 hz hd hb
  obtain ⟨cx0, cx1, cu0, cu1⟩ := cel_at CE.out HBQ.out hbN
  have hz := hzn
  clear hzn
  have hlw : w.heap.size < wn.heap.size := Nat.lt_of_lt_of_le hbN hz
  go_wp2_with fail
  refine (kfeed _ hz HDQ.out [97, 98, 0, 1] _ 4 0 ⟨[3, 9, 97, 98, 0, 1], false⟩ rfl rfl (by decide +kernel) (st_eq (by decide +kernel) (by decide +kernel)) (by simp) (by simp)).mono ?_
  rintro r wn ⟨rfl, hd, hb, hzn⟩
  replace HBQ := Lib.hid (HBQ.out.trans hb)
  replace HDQ := Lib.hid hd
  clear hlw cx0 cx1 cu0 cu1 hz hd hb
  obtain ⟨cx0, cx1, cu0, cu1⟩ := cel_at CE.out HBQ.out hbN
  have hz := hzn
  clear hzn
  have hlw : w.heap.size < wn.heap.size := Nat.lt_of_lt_of_le hbN hz
  go_wp2_with fail
  refine (knext_ab _ hz okM2 HDQ.out ⟨[0, 1], false⟩ (by simp) (by decide +kernel) (st_eq (by decide +kernel) (by decide +kernel))).mono ?_
  rintro r wn ⟨rfl, hd, hb, hzn⟩
  replace HBQ := Lib.hid (HBQ.out.trans hb)
  replace HDQ := Lib.hid hd
  clear hlw cx0 cx1 cu0 cu1 hz hd hb
  obtain ⟨cx0, cx1, cu0, cu1⟩ := cel_at CE.out HBQ.out hbN
  have hz := hzn
  clear hzn
  have hlw : w.heap.size < wn.heap.size := Nat.lt_of_lt_of_le hbN hz
  go_wp2_with fail
  refine (knext _ hz okM2 HDQ.out 0 6 0 6 ⟨[1], false⟩ (by simp) (by decide +kernel) (st_eq (by decide +kernel) (by decide +kernel)) rfl rfl).mono ?_
  rintro r wn ⟨rfl, hd, hb, hzn⟩
  replace HBQ := Lib.hid (HBQ.out.trans hb)
  replace HDQ := Lib.hid hd
  clear hlw cx0 cx1 cu0 cu1 hz hd hb
  obtain ⟨cx0, cx1, cu0, cu1⟩ := cel_at CE.out HBQ.out hbN
  have hz := hzn
  clear hzn
  have hlw : w.heap.size < wn.heap.size := Nat.lt_of_lt_of_le hbN hz
  go_wp2_with fail
  refine (knext _ hz okM2 HDQ.out 0 4 0 4 ⟨[1], false⟩ (by simp) (by decide +kernel) (st_eq (by decide +kernel) (by decide +kernel)) rfl rfl).mono ?_
  rintro r wn ⟨rfl, hd, hb, hzn⟩
  replace HBQ := Lib.hid (HBQ.out.trans hb)
  replace HDQ := Lib.hid hd
  clear hlw cx0 cx1 cu0 cu1 hz hd hb
  obtain ⟨cx0, cx1, cu0, cu1⟩ := cel_at CE.out HBQ.out hbN
  have hz := hzn
  clear hzn
  have hlw : w.heap.size < wn.heap.size := Nat.lt_of_lt_of_le hbN hz
  go_wp2_with fail
  refine (kfeed _ hz HDQ.out [7] _ 1 0 ⟨[1, 7], false⟩ rfl rfl (by decide +kernel) (st_eq (by decide +kernel) (by decide +kernel)) (by simp) (by simp)).mono ?_
  rintro r wn ⟨rfl, hd, hb, hzn⟩
  replace HBQ := Lib.hid (HBQ.out.trans hb)
  replace HDQ := Lib.hid hd
  clear hlw cx0 cx1 cu0 cu1 hz hd hb
  obtain ⟨cx0, cx1, cu0, cu1⟩ := cel_at CE.out HBQ.out hbN
  have hz := hzn
  clear hzn
  have hlw : w.heap.size < wn.heap.size := Nat.lt_of_lt_of_le hbN hz
  go_wp2_with fail
  refine (knext _ hz okM2 HDQ.out 7 0 7 0 ⟨[], false⟩ (by simp) (by decide +kernel) (st_eq (by decide +kernel) (by decide +kernel)) rfl rfl).mono ?_
  rintro r wn ⟨rfl, hd, hb, hzn⟩
  replace HBQ := Lib.hid (HBQ.out.trans hb)
  replace HDQ := Lib.hid hd
  clear hlw cx0 cx1 cu0 cu1 hz hd hb
  obtain ⟨cx0, cx1, cu0, cu1⟩ := cel_at CE.out HBQ.out hbN
  have hz := hzn
  clear hzn
  have hlw : w.heap.size < wn.heap.size := Nat.lt_of_lt_of_le hbN hz
  go_wp2_with fail
  refine (kfeed _ hz HDQ.out [4] _ 1 0 ⟨[4], false⟩ rfl rfl (by decide +kernel) (st_eq (by decide +kernel) (by decide +kernel)) (by simp) (by simp)).mono ?_
  rintro r wn ⟨rfl, hd, hb, hzn⟩
  replace HBQ := Lib.hid (HBQ.out.trans hb)
  replace HDQ := Lib.hid hd
  clear hlw cx0 cx1 cu0 cu1 hz hd hb
  obtain ⟨cx0, cx1, cu0, cu1⟩ := cel_at CE.out HBQ.out hbN
  have hz := hzn
  clear hzn
  have hlw : w.heap.size < wn.heap.size := Nat.lt_of_lt_of_le hbN hz
  go_wp2_with fail
  refine (knext _ hz okM2 HDQ.out 0 5 0 5 ⟨[], true⟩ (by simp) (by decide +kernel) (st_eq (by decide +kernel) (by decide +kernel)) rfl rfl).mono ?_
  rintro r wn ⟨rfl, hd, hb, hzn⟩
  replace HBQ := Lib.hid (HBQ.out.trans hb)
  replace HDQ := Lib.hid hd
  clear hlw cx0 cx1 cu0 cu1 hz hd hb
  obtain ⟨cx0, cx1, cu0, cu1⟩ := cel_at CE.out HBQ.out hbN
  have hz := hzn
  clear hzn
  have hlw : w.heap.size < wn.heap.size := Nat.lt_of_lt_of_le hbN hz
  go_wp2_with fail
  refine (kclosed _ hz HDQ.out true rfl).mono ?_
  rintro r wn ⟨rfl, hd, hb, hzn⟩
  replace HBQ := Lib.hid (HBQ.out.trans hb)
  replace HDQ := Lib.hid hd
  clear hlw cx0 cx1 cu0 cu1 hz hd hb
  obtain ⟨cx0, cx1, cu0, cu1⟩ := cel_at CE.out HBQ.out hbN
  have hz := hzn
  clear hzn
  have hlw : w.heap.size < wn.heap.size := Nat.lt_of_lt_of_le hbN hz
  go_wp2_with fail
  refine (knext _ hz okM2 HDQ.out 0 14 0 14 ⟨[], true⟩ (by simp) (by decide +kernel) (st_eq (by decide +kernel) (by decide +kernel)) rfl rfl).mono ?_
  rintro r wn ⟨rfl, hd, hb, hzn⟩
  replace HBQ := Lib.hid (HBQ.out.trans hb)
  replace HDQ := Lib.hid hd
  clear hlw cx0 cx1 cu0 cu1 hz hd hb
  obtain ⟨cx0, cx1, cu0, cu1⟩ := cel_at CE.out HBQ.out hbN
  have hz := hzn
  clear hzn
  have hlw : w.heap.size < wn.heap.size := Nat.lt_of_lt_of_le hbN hz
  go_wp2_with fail
  refine (kfeed _ hz HDQ.out [1] _ 1 14 ⟨[], true⟩ rfl rfl (by decide +kernel) (st_eq (by decide +kernel) (by decide +kernel)) (by simp) (by simp)).mono ?_
  rintro r wn ⟨rfl, hd, hb, hzn⟩
  replace HBQ := Lib.hid (HBQ.out.trans hb)
  replace HDQ := Lib.hid hd
  clear hlw cx0 cx1 cu0 cu1 hz hd hb
  obtain ⟨cx0, cx1, cu0, cu1⟩ := cel_at CE.out HBQ.out hbN
  have hz := hzn
  clear hzn
  have hlw : w.heap.size < wn.heap.size := Nat.lt_of_lt_of_le hbN hz
  go_wp2_with fail
  refine (kheld _ hz HDQ.out 0 (by simp)).mono ?_
  rintro r wn ⟨rfl, hd, hb, hzn⟩
  replace HBQ := Lib.hid (HBQ.out.trans hb)
  replace HDQ := Lib.hid hd
  clear hlw cx0 cx1 cu0 cu1 hz hd hb
  obtain ⟨cx0, cx1, cu0, cu1⟩ := cel_at CE.out HBQ.out hbN
  have hz := hzn
  clear hzn
  have hlw : w.heap.size < wn.heap.size := Nat.lt_of_lt_of_le hbN hz
  go_wp2_with fail
  refine (kneed _ hz okM2 HDQ.out (by simp) 0 (by decide +kernel)).mono ?_
  rintro r wn ⟨rfl, hd, hb, hzn⟩
  replace HBQ := Lib.hid (HBQ.out.trans hb)
  replace HDQ := Lib.hid hd
  clear hlw cx0 cx1 cu0 cu1 hz hd hb
  obtain ⟨cx0, cx1, cu0, cu1⟩ := cel_at CE.out HBQ.out hbN
  have hz := hzn
  clear hzn
  have hlw : w.heap.size < wn.heap.size := Nat.lt_of_lt_of_le hbN hz
  go_wp2_with fail
  refine (kall3 wn _ _ _ _ rfl rfl rfl rfl _ rfl).mono ?_
  rintro r wm ⟨rfl, hb⟩
  have hbb : Below wn.heap.size wn wm := (((two_below wn _ _).alloc (by simp; omega) _).alloc (by simp; omega) _).trans (hb.mono (by simp; omega))
  replace HBQ := Lib.hid (HBQ.out.trans (hbb.mono hz))
  replace hz : N ≤ wm.heap.size := Nat.le_trans hz hbb.size
  clear hlw cx0 cx1 cu0 cu1 hb hbb HDQ
  obtain ⟨cx0, cx1, cu0, cu1⟩ := cel_at CE.out HBQ.out hbN
  have hlw : w.heap.size < wm.heap.size := Nat.lt_of_lt_of_le hbN hz
  go_wp2_with fail
  refine (kall1 wm _ _ _ rfl rfl rfl _ rfl).mono ?_
  rintro r wl ⟨rfl, hb⟩
  have hbb : Below wm.heap.size wm wl := ((two_below wm _ _).alloc (by simp; omega) _).trans (hb.mono (by simp; omega))
  replace HBQ := Lib.hid (HBQ.out.trans (hbb.mono hz))
  replace hz : N ≤ wl.heap.size := Nat.le_trans hz hbb.size
  clear hlw cx0 cx1 cu0 cu1 hb hbb
  go_wp2_with fail
  refine (kall0 wl).mono ?_
  rintro r wk ⟨rfl, hb⟩
  replace HBQ := Lib.hid (HBQ.out.trans (hb.mono hz))
  replace hz : N ≤ wk.heap.size := Nat.le_trans hz hb.size
  clear hb
  go_wp2_with fail
  refine (all_any none [] 0 0 (-1) wk rfl (Rb.nil _ _) (fun _ => rfl) (by simp)).mono ?_
  rintro r wj ⟨hb, (⟨_, rfl⟩ | ⟨ho, _⟩)⟩
  case' inr => exact absurd (Or.inl (by omega)) ho
  case' inl =>
  replace HBQ := Lib.hid (HBQ.out.trans (hb.mono hz))
  replace hz : N ≤ wj.heap.size := Nat.le_trans hz hb.size
  clear hb
  go_wp2_with fail
  refine (new_any 2097153 wj).mono ?_
  rintro r wi (⟨ho, _⟩ | ⟨_, rfl, rfl⟩)
  case' inl => exact absurd (Or.inr (by omega)) ho
  case' inr =>
  go_wp2_with fail
  go_ret
  exact ⟨rfl, HB0.out.trans (HBQ.out.mono (by omega))⟩
end Go.Proofs.Ytmphielkohnpgaa.Dk
