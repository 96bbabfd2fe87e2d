/- Proves that the law ResponseLongs returns true. No condition. -/
import Derived.Test.YthlfahblnpijaaaSl
import Derived.Test.YthlfahblnpijaaaSzh
import Derived.Test.YthlfahblnpijaaaSv
import Derived.Test.YthlfahblnpijaaaSw
namespace Go.Proofs.Ythlfahblnpijaaa.Szi
open Go.RowKit Vm Ap Vw Va Gc Mi Mb Qm Sm Se So Sp Sx Sw Sk Szh

theorem only_below {B : Nat} {w w' : World} (h : Below B w w') : Only (fun j => B ≤ j) w w' := ⟨h.os, h.tape, h.output, h.size, fun j _ hn => h.block j (by omega)⟩
theorem one_put (w : World) (g j : Nat) (u : Value) : Only (fun q => q = g) w (w.setCell ⟨g, j, none⟩ u) := (Only.refl (fun q => q = g) w).put (ad := ⟨g, j, none⟩) rfl u
theorem tn (a : Int) (h : a < 18446744073709551616) : a.toNat < big := by unfold big; omega
theorem readF_code {op : Int} (h : 0 ≤ op ∧ op ≤ 15) (p : Bs) : readF (codeU (64 + op)).toNat p = readS op p := by
  have e := codeU_int (n := 64 + op) (by omega)
  unfold readF
  rw [if_pos (by omega), e, show 64 + op - 64 = op from by omega]
set_option maxRecDepth 100000 in
set_option maxHeartbeats 2000000 in
theorem longs_over (more parts great : Int) (w : World) (h : more < -2 ∨ 2 < more ∨ parts < -2 ∨ 2 < parts ∨ great < -2 ∨ 2 < great) :
    Calls Try.prog 6 #[.int .i64 more, .int .i64 parts, .int .i64 great] w (boolOf true w) := by
  have HK := Lib.hid (fun W (_ : Below w.heap.size w W) => Sl.known_any W)
  by_cases h0 : more < -2
  · have d0 : decide (more < -2) = true := by simp; omega
    clear h
    go_enter Try.func6, Try.ntmps6
    go_wp2_with fail
    refine (HK.out _ (Below.refl _ _)).mono ?_
    rintro e w1 ⟨rfl, hb⟩
    go_wp2_with fail
    go_ret
    exact ⟨rfl, hb⟩
  · have d0 : decide (more < -2) = false := by simp; omega
    by_cases h1 : 2 < more
    · have d1 : decide (2 < more) = true := by simp; omega
      clear h
      go_enter Try.func6, Try.ntmps6
      go_wp2_with fail
      refine (HK.out _ (Below.refl _ _)).mono ?_
      rintro e w1 ⟨rfl, hb⟩
      go_wp2_with fail
      go_ret
      exact ⟨rfl, hb⟩
    · have d1 : decide (2 < more) = false := by simp; omega
      by_cases h2 : parts < -2
      · have d2 : decide (parts < -2) = true := by simp; omega
        clear h
        go_enter Try.func6, Try.ntmps6
        go_wp2_with fail
        refine (HK.out _ (Below.refl _ _)).mono ?_
        rintro e w1 ⟨rfl, hb⟩
        go_wp2_with fail
        go_ret
        exact ⟨rfl, hb⟩
      · have d2 : decide (parts < -2) = false := by simp; omega
        by_cases h3 : 2 < parts
        · have d3 : decide (2 < parts) = true := by simp; omega
          clear h
          go_enter Try.func6, Try.ntmps6
          go_wp2_with fail
          refine (HK.out _ (Below.refl _ _)).mono ?_
          rintro e w1 ⟨rfl, hb⟩
          go_wp2_with fail
          go_ret
          exact ⟨rfl, hb⟩
        · have d3 : decide (2 < parts) = false := by simp; omega
          by_cases h4 : great < -2
          · have d4 : decide (great < -2) = true := by simp; omega
            clear h
            go_enter Try.func6, Try.ntmps6
            go_wp2_with fail
            refine (HK.out _ (Below.refl _ _)).mono ?_
            rintro e w1 ⟨rfl, hb⟩
            go_wp2_with fail
            go_ret
            exact ⟨rfl, hb⟩
          · have d4 : decide (great < -2) = false := by simp; omega
            have d5 : decide (2 < great) = true := by simp; omega
            clear h
            go_enter Try.func6, Try.ntmps6
            go_wp2_with fail
            refine (HK.out _ (Below.refl _ _)).mono ?_
            rintro e w1 ⟨rfl, hb⟩
            go_wp2_with fail
            go_ret
            exact ⟨rfl, hb⟩

def xG (v : Bs) (V : Option Addr) (I : Nat) : Res := { op := 4, err := 0, items := [⟨⟨2, v, 18446744073709551615, 18446744073709551615⟩, V, v.length⟩], IA := some ⟨I, 0, none⟩, ik := 1, version := 0, count := 0, numbers := [], NA := none, nk := 0 }
def xM (ys : List Im) (IA : Option Addr) (ik : Nat) : Res := { op := 5, err := 0, items := ys, IA := IA, ik := ik, version := 0, count := 0, numbers := [], NA := none, nk := 0 }
def xN (ns : List Nat) (NA : Option Addr) (nk : Nat) : Res := { op := 15, err := 0, items := [], IA := none, ik := 0, version := 0, count := 0, numbers := ns, NA := NA, nk := nk }
def bareX (op err : Int) (ver : Nat) (c : Int) : Res := { op := op, err := err, items := [], IA := none, ik := 0, version := ver, count := c, numbers := [], NA := none, nk := 0 }
theorem lng_bare (W : World) (op err : Int) (ver : Nat) (c : Int) (h1 : 0 ≤ op ∧ op ≤ 15) (h2 : 0 ≤ err ∧ err ≤ 200000) (h3 : ver < 18446744073709551616) (h4 : 0 ≤ c ∧ c ≤ 2199023255552)
    (no : validS (bareX op err ver c).r = false → readS op (payS (bareX op err ver c).r) = none) : Lng W (bareX op err ver c) := by
  have hs : SmallR (bareX op err ver c).r := ⟨by show ver < big; unfold big; omega, (fun x hx => by cases hx), (fun n hn => by cases hn)⟩
  refine ⟨⟨RI.nil _ _, fun _ => rfl, (fun y hy => by cases hy), (fun y hy => by cases hy), RN.nil _ _, fun _ => rfl⟩, ⟨by show _ ≤ op; omega, by show op ≤ _; omega, by show _ ≤ err; omega, by show err ≤ _; omega, by show _ ≤ c; omega, by show c ≤ _; omega, h3, by show 0 ≤ 1000; omega, by show 0 ≤ 1000; omega, (fun y hy => by cases hy), (fun n hn => by cases hn)⟩,
    by show 0 ≤ 40; omega, h1, h2.1, h4.1, (fun y hy => by cases hy), hs, pay_small _ hs (by show 0 ≤ 40; omega) (by show 0 ≤ 100; omega) (fun x hx => by cases hx) (by show err.toNat < big; unfold big; omega) (by show c.toNat < big; unfold big; omega) (fun x hx => by cases hx), no⟩
theorem lng_get (W : World) (v : Bs) (V : Option Addr) (I : Nat) (hbi : BoxI W I ⟨⟨2, v, 18446744073709551615, 18446744073709551615⟩, V, v.length⟩) (hrv : Rb W V v) (hvn : V = none → v.length = 0) (hvl : v.length ≤ 65538) : Lng W (xG v V I) := by
  have hs : SmallR (xG v V I).r := ⟨by show 0 < big; unfold big; omega, (fun x hx => by rw [List.mem_singleton.1 hx]; show 18446744073709551615 < big ∧ 18446744073709551615 < big; unfold big; omega), (fun n hn => by cases hn)⟩
  refine ⟨⟨fun _ => ⟨I, 0, rfl, hbi.lt, fun j hj => ?_⟩, (fun e => by cases e), (fun y hy => by rw [List.mem_singleton.1 hy]; exact hrv), (fun y hy => by rw [List.mem_singleton.1 hy]; exact hvn), RN.nil _ _, fun _ => rfl⟩, ⟨by show _ ≤ (4 : Int); omega, by show (4 : Int) ≤ _; omega, by show _ ≤ (0 : Int); omega, by show (0 : Int) ≤ _; omega, by show _ ≤ (0 : Int); omega, by show (0 : Int) ≤ _; omega, by show 0 < _; omega, by show 1 ≤ 1000; omega, by show 0 ≤ 1000; omega, (fun y hy => by rw [List.mem_singleton.1 hy]; exact ⟨by show (-9223372036854775808 : Int) ≤ 2 ∧ (2 : Int) ≤ 9223372036854775807; omega, by show v.length ≤ _; omega, by show 18446744073709551615 < _; omega, by show 18446744073709551615 < _; omega⟩), (fun n hn => by cases hn)⟩,
    by show 1 ≤ 40; omega, by show (0 : Int) ≤ 4 ∧ (4 : Int) ≤ 15; omega, by show (0 : Int) ≤ 0; omega, by show (0 : Int) ≤ 0; omega, (fun y hy => by rw [List.mem_singleton.1 hy]; show (0 : Int) ≤ 2; omega), hs, pay_small _ hs (by show 1 ≤ 40; omega) (by show 0 ≤ 100; omega) (fun x hx => by rw [List.mem_singleton.1 hx]; exact Or.inr ⟨by show 1 ≤ 1; omega, by show v.length ≤ _; omega⟩) (by show (0 : Int).toNat < big; unfold big; omega) (by show (0 : Int).toNat < big; unfold big; omega) (fun x hx => by rw [List.mem_singleton.1 hx]; show (2 : Int).toNat < big; unfold big; omega), fun h => ?_⟩
  · have hj0 : j = 0 := by have : j < 1 := hj; omega
    subst hj0
    exact ⟨hbi.c0, hbi.c1, hbi.c2, hbi.c3⟩
  · by_cases hl : 65536 < v.length
    · exact g_none hl (by unfold big; omega)
    · have h' : validS (rG v) = false := h
      rw [g_valid (by omega)] at h'; cases h'
theorem lng_m (W : World) (ys : List Im) (IA : Option Addr) (ik k K : Nat) (hym : ys.map (·.i) = (List.range k).map itF) (hyl : ys.length = k) (hit : ItO K W IA ik ys) (h1 : 1 ≤ k) (h2 : k ≤ 18) : Lng W (xM ys IA ik) := by
  have er : (xM ys IA ik).r = rM k := by show Rsp.mk 5 0 (ys.map (·.i)) 0 0 [] = _; rw [hym]; rfl
  have hi : ∀ y ∈ ys, ∃ i, i < k ∧ y.i = itF i := fun y hy => by
    have : y.i ∈ (List.range k).map itF := by rw [← hym]; exact List.mem_map_of_mem hy
    obtain ⟨i, hi, e⟩ := List.mem_map.1 this
    exact ⟨i, List.mem_range.1 hi, e.symm⟩
  have hs : SmallR (rM k) := ⟨by show 0 < big; unfold big; omega, (fun x hx => by
    obtain ⟨i, hi, e⟩ := List.mem_map.1 hx
    have := List.mem_range.1 hi
    rw [← e]; show i < big ∧ 0 < big; unfold big; omega), (fun n hn => by cases hn)⟩
  refine ⟨⟨ri_mine hit.mi, hit.mi.non, fun y hy => (hit.pay y hy).1, fun y hy => (hit.pay y hy).2.1, RN.nil _ _, fun _ => rfl⟩, ⟨by show _ ≤ (5 : Int); omega, by show (5 : Int) ≤ _; omega, by show _ ≤ (0 : Int); omega, by show (0 : Int) ≤ _; omega, by show _ ≤ (0 : Int); omega, by show (0 : Int) ≤ _; omega, by show 0 < _; omega, by show ys.length ≤ 1000; omega, by show 0 ≤ 1000; omega, (fun y hy => by
      obtain ⟨i, hi, e⟩ := hi y hy
      rw [e]; exact ⟨by show _ ≤ (1 : Int) ∧ (1 : Int) ≤ _; omega, by show 0 ≤ _; omega, by show i < _; omega, by show 0 < _; omega⟩), (fun n hn => by cases hn)⟩,
    by show ys.length ≤ 40; omega, by show _ ≤ (5 : Int) ∧ (5 : Int) ≤ _; omega, by show (0 : Int) ≤ 0; omega, by show (0 : Int) ≤ 0; omega, (fun y hy => by obtain ⟨i, _, e⟩ := hi y hy; rw [e]; show (0 : Int) ≤ 1; omega), by rw [er]; exact hs, ?_, fun h => ?_⟩
  · rw [er]
    refine pay_small _ hs (by show ((List.range k).map itF).length ≤ 40; simp; omega) (by show 0 ≤ 100; omega) (fun x hx => ?_) (by show (0 : Int).toNat < big; unfold big; omega) (by show (0 : Int).toNat < big; unfold big; omega) (fun x hx => ?_)
    · obtain ⟨i, _, e⟩ := List.mem_map.1 hx
      rw [← e]; exact Or.inl (by show 0 ≤ _; omega)
    · obtain ⟨i, _, e⟩ := List.mem_map.1 hx
      rw [← e]; show (1 : Int).toNat < big; unfold big; omega
  · rw [er] at h ⊢
    by_cases hl : 16 < k
    · exact m_none hl (by unfold big; omega)
    · rw [m_valid h1 (by omega)] at h; cases h
theorem lng_n (W : World) (ns : List Nat) (NA : Option Addr) (nk m K : Nat) (hne : ns = List.replicate m 18446744073709551615) (hnu : NuO K W NA nk ns) (h2 : m ≤ 66) : Lng W (xN ns NA nk) := by
  have er : (xN ns NA nk).r = rN m := by show Rsp.mk 15 0 [] 0 0 ns = _; rw [hne]; rfl
  have hnl : ns.length = m := by rw [hne, List.length_replicate]
  have hs : SmallR (rN m) := ⟨by show 0 < big; unfold big; omega, (fun x hx => by cases hx), (fun n hn => by rw [List.eq_of_mem_replicate hn]; unfold big; omega)⟩
  refine ⟨⟨RI.nil _ _, fun _ => rfl, (fun y hy => by cases hy), (fun y hy => by cases hy), rn_mine hnu, Mine.non hnu⟩, ⟨by show _ ≤ (15 : Int); omega, by show (15 : Int) ≤ _; omega, by show _ ≤ (0 : Int); omega, by show (0 : Int) ≤ _; omega, by show _ ≤ (0 : Int); omega, by show (0 : Int) ≤ _; omega, by show 0 < _; omega, by show 0 ≤ 1000; omega, by show ns.length ≤ 1000; omega, (fun y hy => by cases hy), (fun n hn => by have hn' : n ∈ ns := hn; rw [hne] at hn'; rw [List.eq_of_mem_replicate hn']; omega)⟩,
    by show 0 ≤ 40; omega, by show _ ≤ (15 : Int) ∧ (15 : Int) ≤ _; omega, by show (0 : Int) ≤ 0; omega, by show (0 : Int) ≤ 0; omega, (fun y hy => by cases hy), by rw [er]; exact hs, ?_, fun h => ?_⟩
  · rw [er]
    exact pay_small _ hs (by show 0 ≤ 40; omega) (by show (List.replicate m 18446744073709551615).length ≤ 100; rw [List.length_replicate]; omega) (fun x hx => by cases hx) (by show (0 : Int).toNat < big; unfold big; omega) (by show (0 : Int).toNat < big; unfold big; omega) (fun x hx => by cases hx)
  · rw [er] at h ⊢
    by_cases hl : 64 < m
    · exact n_none hl (by unfold big; omega)
    · rw [n_valid (by omega)] at h; cases h
set_option maxRecDepth 100000 in
set_option maxHeartbeats 16000000 in
theorem longs_main (more parts great : Int) (w : World) (m1 : -2 ≤ more) (m2 : more ≤ 2) (p1 : -2 ≤ parts) (p2 : parts ≤ 2) (g1 : -2 ≤ great) (g2 : great ≤ 2) :
    Calls Try.prog 6 #[.int .i64 more, .int .i64 parts, .int .i64 great] w (boolOf true w) := by
  have HK := Lib.hid (fun W (_ : Below w.heap.size w W) => Sl.known_any W)
  have HGR := Lib.hid (And.intro g1 g2)
  have d0 : decide (more < -2) = false := by simp; omega
  have d1 : decide (2 < more) = false := by simp; omega
  have d2 : decide (parts < -2) = false := by simp; omega
  have d3 : decide (2 < parts) = false := by simp; omega
  have d4 : decide (great < -2) = false := by simp; omega
  have d5 : decide (2 < great) = false := by simp; omega
  obtain ⟨n, hn⟩ : ∃ n : Nat, (n : Int) = 65536 + more := ⟨(65536 + more).toNat, by omega⟩
  obtain ⟨NI, hNI⟩ : ∃ N : Nat, (N : Int) = 16 + parts := ⟨(16 + parts).toNat, by omega⟩
  obtain ⟨NN, hNN⟩ : ∃ N : Nat, (N : Int) = 64 + parts := ⟨(64 + parts).toNat, by omega⟩
  have hNI1 : Hid (14 ≤ NI ∧ NI ≤ 18) := by show _ ∧ _; omega
  have hNN1 : Hid (62 ≤ NN ∧ NN ≤ 66) := by show _ ∧ _; omega
  obtain ⟨w1, hmk, hrz, hb1⟩ := make_zeros n w (by omega)
  obtain ⟨v, hzs⟩ : ∃ v : Bs, v = List.replicate n 0 := ⟨_, rfl⟩
  have hzl : v.length = n := by rw [hzs, List.length_replicate]
  rw [← hzs] at hrz
  rw [hn] at hmk
  clear hzs
  obtain rfl := hzl
  obtain ⟨V, hV⟩ : ∃ V : Option Addr, V = some ⟨w.heap.size, 0, none⟩ := ⟨_, rfl⟩
  rw [← hV] at hrz hmk
  have HVN : Hid (V = none → v.length = 0) := fun e => by rw [hV] at e; cases e
  have hvl : v.length ≤ 65538 := by omega
  have HVE := Lib.hid hV
  obtain ⟨I, hI⟩ : ∃ I, I = w1.heap.size := ⟨_, rfl⟩
  obtain ⟨w2, hw2⟩ : ∃ w2, w2 = (((w1.alloc (imO ⟨⟨2, v, 18446744073709551615, 18446744073709551615⟩, V, v.length⟩)).alloc (resO (xG v V I))).alloc (resO (xM [] none 0))).alloc (resO (xN [] none 0)) := ⟨_, rfl⟩
  have hz1 : (w1.alloc (imO ⟨⟨2, v, 18446744073709551615, 18446744073709551615⟩, V, v.length⟩)).heap.size = I + 1 := by rw [hI]; simp
  have hz2 : ((w1.alloc (imO ⟨⟨2, v, 18446744073709551615, 18446744073709551615⟩, V, v.length⟩)).alloc (resO (xG v V I))).heap.size = I + 2 := by rw [hI]; simp
  have hz3 : (((w1.alloc (imO ⟨⟨2, v, 18446744073709551615, 18446744073709551615⟩, V, v.length⟩)).alloc (resO (xG v V I))).alloc (resO (xM [] none 0))).heap.size = I + 3 := by rw [hI]; simp
  have hs2 : w2.heap.size = I + 4 := by rw [hw2, hI]; simp
  have HBI : Hid (BoxI w2 I ⟨⟨2, v, 18446744073709551615, 18446744073709551615⟩, V, v.length⟩) := by
    show BoxI _ _ _
    rw [hw2, hI]
    exact (((BoxI.new w1 _).below (alloc_below _ _) (Nat.le_refl _)).below (alloc_below _ _) (Nat.le_refl _)).below (alloc_below _ _) (Nat.le_refl _)
  have HBG : Hid (BoxS w2 (I + 1) (xG v V I)) := by
    have h := ((BoxS.new (w1.alloc (imO ⟨⟨2, v, 18446744073709551615, 18446744073709551615⟩, V, v.length⟩)) (xG v V I)).below (alloc_below _ (resO (xM [] none 0))) (Nat.le_refl _)).below (alloc_below _ (resO (xN [] none 0))) (Nat.le_refl _)
    rw [hz1] at h
    show BoxS _ _ _
    rw [hw2]; exact h
  have HBM : Hid (BoxS w2 (I + 2) (xM [] none 0)) := by
    have h := (BoxS.new ((w1.alloc (imO ⟨⟨2, v, 18446744073709551615, 18446744073709551615⟩, V, v.length⟩)).alloc (resO (xG v V I))) (xM [] none 0)).below (alloc_below _ (resO (xN [] none 0))) (Nat.le_refl _)
    rw [hz2] at h
    show BoxS _ _ _
    rw [hw2]; exact h
  have HBN : Hid (BoxS w2 (I + 3) (xN [] none 0)) := by
    have h := BoxS.new (((w1.alloc (imO ⟨⟨2, v, 18446744073709551615, 18446744073709551615⟩, V, v.length⟩)).alloc (resO (xG v V I))).alloc (resO (xM [] none 0))) (xN [] none 0)
    rw [hz3] at h
    show BoxS _ _ _
    rw [hw2]; exact h
  have B2 : Below w1.heap.size w1 w2 := by rw [hw2]; exact (((alloc_below _ _).trans ((alloc_below _ _).mono (by simp))).trans ((alloc_below _ _).mono (by simp; omega))).trans ((alloc_below _ _).mono (by simp; omega))
  have HB2 : Hid (Below w.heap.size w w2) := hb1.trans (B2.mono hb1.size)
  have HRV : Hid (Rb w2 V v) := hrz.below B2 (Nat.le_refl _)
  have HVC : Hid (∀ a, V = some a → a.block < I) := fun a ha => by
    rw [hV] at ha; injection ha with ha; subst ha
    obtain ⟨b, q, e, hlt, _⟩ := hrz (by omega)
    rw [hV] at e; injection e with e; injection e with e1; rw [hI]; show w.heap.size < _; omega
  have HWC : Hid (w.heap.size ≤ I) := by show _ ≤ _; rw [hI]; exact hb1.size
  have HS2 := Lib.hid hs2
  have e1 : imO ⟨⟨2, v, 18446744073709551615, 18446744073709551615⟩, V, v.length⟩ = .cells #[.int .i64 2, .slice V v.length v.length, .int .u64 18446744073709551615, .int .u64 18446744073709551615] 53 := rfl
  have e2 : resO (xG v V I) = .cells #[.int .i64 4, .int .i64 0, .slice (some ⟨I, 0, none⟩) 1 1, .int .u64 0, .int .i64 0, .slice none 0 0] 28 := rfl
  have e3 : resO (xM [] none 0) = .cells #[.int .i64 5, .int .i64 0, .slice none 0 0, .int .u64 0, .int .i64 0, .slice none 0 0] 28 := rfl
  have e4 : resO (xN [] none 0) = .cells #[.int .i64 15, .int .i64 0, .slice none 0 0, .int .u64 0, .int .i64 0, .slice none 0 0] 28 := rfl
  rw [e1, e2, e3, e4] at hw2
  have HNI := Lib.hid hNI
  have HNN := Lib.hid hNN
  clear e1 e2 e3 e4 hz1 hz2 hz3 hs2 B2 hrz hn hV hNI hNN hb1
  go_enter Try.func6, Try.ntmps6
  go_upto_region 5 with fail
  rw [← hI]
  rw [← hw2]
  obtain ⟨G, hG⟩ : ∃ G, G = I + 1 := ⟨_, rfl⟩
  obtain ⟨MB, hMB⟩ : ∃ M, M = I + 1 + 1 := ⟨_, rfl⟩
  obtain ⟨NB, hNB⟩ : ∃ N, N = I + 1 + 1 + 1 := ⟨_, rfl⟩
  rw [← hNB, ← hMB, ← hG]
  have HBL : Hid (G = I + 1 ∧ MB = I + 2 ∧ NB = I + 3 ∧ w2.heap.size = I + 4) := ⟨hG, hMB, hNB, HS2.out⟩
  have hG' : I + 1 = G := hG.symm
  have hM' : I + 2 = MB := hMB.symm
  have hN' : I + 3 = NB := hNB.symm
  rw [hG'] at HBG
  rw [hM'] at HBM
  rw [hN'] at HBN
  clear hG hMB hNB hG' hM' hN' HS2
  clear hw2 hI hmk d0 d1 d2 d3 d4 d5 m1 m2
  go_wp2_with fail
  go_loopw [10] (fun i wr => ∃ (k : Nat) (ys : List Im) (IA : Option Addr) (ik : Nat), k ≤ NI ∧ i = .int .i64 (k : Int) ∧ ys.length = k ∧ ys.map (·.i) = (List.range k).map itF ∧ BoxS wr MB (xM ys IA ik) ∧ ItO w2.heap.size wr IA ik ys ∧ Only (fun j => j = MB) w2 wr) (fun i _ => NI - (intOf i).toNat)
  case atStart => exact ⟨0, [], none, 0, Nat.zero_le _, rfl, rfl, rfl, HBM.out, ItO.nil _ _, Only.refl _ _⟩
  case round =>
    obtain ⟨k, ys, IA, ik, hk, rfl, hyl, hym, hbx, hit, hon⟩ := hrel
    obtain ⟨wo, rfl⟩ : ∃ wo : World, wo = wr := ⟨_, rfl⟩
    have HYL := Lib.hid hyl
    have HYM := Lib.hid hym
    have HIT := Lib.hid hit
    have HON := Lib.hid hon
    have HBX := Lib.hid hbx
    by_cases hlt : k < NI
    · have i1 : (k : Int) < 16 + parts := by have := HNI.out; omega
      have h18 := hNI1.out.2
      obtain ⟨_, _, x2, _, _, _, xu⟩ := hbx
      have fz := xu 2
      dsimp only [xM] at x2
      rw [hyl] at x2
      have hcv : IntKind.u64.wrap (k : Int) = (k : Int) := by rw [IntKind.wrap_u64]; omega
      have hle : w2.heap.size ≤ wo.heap.size := hon.size
      clear hyl hym hit hon xu
      go_wp2_with (at_builtin; (refine wpList_item rfl _ _ rfl HYL.out rfl HIT.out ⟨⟨1, [], k, 0⟩, none, 0⟩ rfl rfl ⟨Rb.nil _ _, fun _ => rfl, fun a e => by cases e⟩ (by omega) hle rfl ?_))
      intro A' c' w4 ys' hys hit4 hb4 hkp
      have HYS := hys
      have HIT4 := Lib.hid hit4
      have HO4 : Hid (Only (fun j => j = MB) w2 w4) := HON.out.trans ((only_below hb4).mono (fun _ _ h => Or.inr h))
      have HBX4 := Lib.hid (HBX.out.kept (hb4.block MB (by have := HBL.out; omega)))
      have fz4 := HBX4.out.un 2
      have x24 : w4.cell? ⟨MB, 2, none⟩ = some (.slice IA k ik) := by
        have := HBX4.out.c2
        dsimp only [xM] at this
        rw [HYL.out] at this; exact this
      have HML := HBL.out
      clear hys hit4 hb4 hkp x2 fz HML
      go_wp2_with fail
      go_roundw
      case rel =>
        refine ⟨k + 1, ys', A', c', by omega, by go_num, by rw [HYS.out, List.length_append, HYL.out]; rfl, ?_, (Sy.boxS_set HBX4.out).1 A' ys' c' _ rfl, HIT4.out.only (one_put w4 MB 2 _) (fun j hj _ e => by have := HBL.out; omega), HO4.out.put (ad := ⟨MB, 2, none⟩) rfl _⟩
        rw [HYS.out, List.map_append, HYM.out, List.range_succ, List.map_append]; rfl
      case measure => simp [intOf]; omega
    · obtain rfl : k = NI := by omega
      have hnn : ¬ (k : Int) < 16 + parts := by have := HNI.out; omega
      have HBN5 := Lib.hid (HBN.out.only hon (fun e => by have := HBL.out; omega))
      have hszw := hon.size
      clear hyl hym hit hon hbx
      go_wp2_with fail
      go_loopw [11] (fun i wr => ∃ (m : Nat) (ns : List Nat) (NA : Option Addr) (nk : Nat), m ≤ NN ∧ i = .int .i64 (m : Int) ∧ ns.length = m ∧ ns = List.replicate m 18446744073709551615 ∧ BoxS wr NB (xN ns NA nk) ∧ NuO wo.heap.size wr NA nk ns ∧ Only (fun j => j = NB) wo wr) (fun i _ => NN - (intOf i).toNat)
      case atStart => exact ⟨0, [], none, 0, Nat.zero_le _, rfl, rfl, rfl, HBN5.out, Mine.nil _ _ _, Only.refl _ _⟩
      case round =>
        obtain ⟨m, ns, NA, nk, hm, rfl, hnl, hne, hbx2, hnu, hon2⟩ := hrel
        obtain ⟨wq, rfl⟩ : ∃ wq : World, wq = wr := ⟨_, rfl⟩
        have HNL := Lib.hid hnl
        have HNE := Lib.hid hne
        have HNU := Lib.hid hnu
        have HON2 := Lib.hid hon2
        have HBX2 := Lib.hid hbx2
        by_cases hlt2 : m < NN
        · have i2 : (m : Int) < 64 + parts := by have := HNN.out; omega
          have h66 := hNN1.out.2
          obtain ⟨_, _, _, _, _, x5, xu⟩ := hbx2
          have fz := xu 5
          dsimp only [xN] at x5
          rw [hnl] at x5
          have hle : wo.heap.size ≤ wq.heap.size := hon2.size
          clear hnl hne hnu hon2 xu
          go_wp2_with (at_builtin; (refine wpList_num rfl _ _ rfl HNL.out rfl HNU.out 18446744073709551615 rfl rfl (by omega) hle rfl ?_))
          intro A' c' w4 ns' hns hnu4 hb4 hkp
          have HNS := hns
          have HNU4 := Lib.hid hnu4
          have HO4 : Hid (Only (fun j => j = NB) wo w4) := HON2.out.trans ((only_below hb4).mono (fun _ _ h => Or.inr h))
          have HBX4 := Lib.hid (HBX2.out.kept (hb4.block NB (by have := HBL.out; omega)))
          have fz4 := HBX4.out.un 5
          have x54 : w4.cell? ⟨NB, 5, none⟩ = some (.slice NA m nk) := by
            have := HBX4.out.c5
            dsimp only [xN] at this
            rw [HNL.out] at this; exact this
          clear hns hnu4 hb4 hkp x5 fz
          go_wp2_with fail
          go_roundw
          case rel =>
            refine ⟨m + 1, ns', A', c', by omega, by go_num, by rw [HNS.out, List.length_append, HNL.out]; rfl, ?_, (Sy.boxS_set HBX4.out).2.2.2 A' ns' c' _ rfl, Mine.only HNU4.out (one_put w4 NB 5 _) (fun a ha e => by have := (Mine.base HNU4.out ha).1; have := HBL.out; omega), HO4.out.put (ad := ⟨NB, 5, none⟩) rfl _⟩
            rw [HNS.out, HNE.out, List.replicate_succ']
          case measure => simp [intOf]; omega
        · obtain rfl : m = NN := by omega
          have hnn2 : ¬ (m : Int) < 64 + parts := by have := HNN.out; omega
          have HG3 := Lib.hid ((HBG.out.only HON.out (fun e => by have := HBL.out; omega)).only hon2 (fun e => by have := HBL.out; omega))
          have HM3 := Lib.hid (HBX.out.only hon2 (fun e => by have := HBL.out; omega))
          have HBq : Hid (Below w.heap.size w wq) := (HB2.out.trans (HON.out.below (fun j e => by have := HBL.out; have := HWC.out; omega) HB2.out.size)).trans (hon2.below (fun j e => by have := HBL.out; have := HWC.out; omega) (Nat.le_trans HB2.out.size hszw))
          have LG : Hid (Lng wq (xG v V I)) := lng_get wq v V I ((HBI.out.only HON.out (fun e => by have := HBL.out; omega)).only hon2 (fun e => by have := HBL.out; omega)) (rb_only (rb_only HRV.out HON.out (fun a ha e => by have := HVC.out a ha; have := HBL.out; omega)) hon2 (fun a ha e => by have := HVC.out a ha; have := HBL.out; omega)) HVN.out hvl
          have LM : Hid (Lng wq (xM ys IA ik)) := lng_m wq ys IA ik _ _ HYM.out HYL.out (HIT.out.only hon2 (fun j hj _ e => by have := HBL.out; omega)) (by have := hNI1.out; omega) (by have := hNI1.out; omega)
          have LN : Hid (Lng wq (xN ns NA nk)) := lng_n wq ns NA nk _ _ hne hnu (by have := hNN1.out; omega)
          have hgr1 := HGR.out.1
          have hgr2 := HGR.out.2
          have LD : Hid (∀ W, Lng W (bareX 7 0 0 (1099511627776 + great))) := fun W => lng_bare W 7 0 0 _ (by omega) (by omega) (by omega) (by omega) (fun h => by
            by_cases hc : 1099511627776 < 1099511627776 + great
            · exact d_none hc (tn (1099511627776 + great) (by omega))
            · have h' : validS (rD (1099511627776 + great)) = false := h
              rw [d_valid (by omega) (by omega)] at h'; cases h')
          have LA : Hid (∀ W, Lng W (bareX 2 0 18446744073709551615 (1099511627776 + great))) := fun W => lng_bare W 2 0 _ _ (by omega) (by omega) (by omega) (by omega) (fun h => by
            by_cases hc : 1099511627776 < 1099511627776 + great
            · exact a_none hc (tn (1099511627776 + great) (by omega))
            · have h' : validS (rA (1099511627776 + great)) = false := h
              rw [a_valid (by omega) (by omega)] at h'; cases h')
          have LF : Hid (∀ W (op : Int), op = 0 ∨ op = 15 → Lng W (bareX op (100000 + great) 0 0)) := fun W op ho => lng_bare W op _ 0 0 (by omega) (by omega) (by omega) (by omega) (fun h => by
            by_cases hc : 100000 < 100000 + great
            · exact f_none hc (tn (100000 + great) (by omega))
            · have h' : validS (rF op (100000 + great)) = false := h
              rw [f_valid ho (by omega) (by omega)] at h'; cases h')
          have HN3 := HBX2
          obtain ⟨y, hy⟩ : ∃ y, y = xM ys IA ik := ⟨_, rfl⟩
          obtain ⟨z, hz⟩ : ∃ z, z = xN ns NA nk := ⟨_, rfl⟩
          obtain ⟨x, hx⟩ : ∃ x, x = xG v V I := ⟨_, rfl⟩
          rw [← hy] at LM HM3
          rw [← hz] at LN HN3
          rw [← hx] at LG HG3
          clear hx hy hz hnl hne hnu hon2 hbx2 HBX2 HNL HNE HNU HON2 hlt2 hlt HIT HYM HYL HON HBX HBG HBM HBN HBN5 HBI HRV HVC HVN HVE hszw hNI1 hNN1 HWC
          have k00 : ∀ u, Below wq.heap.size wq u → u.cell? ⟨G, 0, none⟩ = some (.int .i64 x.op) := fun u h => (HG3.out.below h (Nat.le_refl _)).c0
          have k01 : ∀ u, Below wq.heap.size wq u → u.cell? ⟨G, 1, none⟩ = some (.int .i64 x.err) := fun u h => (HG3.out.below h (Nat.le_refl _)).c1
          have k02 : ∀ u, Below wq.heap.size wq u → u.cell? ⟨G, 2, none⟩ = some (.slice x.IA x.items.length x.ik) := fun u h => (HG3.out.below h (Nat.le_refl _)).c2
          have k03 : ∀ u, Below wq.heap.size wq u → u.cell? ⟨G, 3, none⟩ = some (.int .u64 (x.version : Int)) := fun u h => (HG3.out.below h (Nat.le_refl _)).c3
          have k04 : ∀ u, Below wq.heap.size wq u → u.cell? ⟨G, 4, none⟩ = some (.int .i64 x.count) := fun u h => (HG3.out.below h (Nat.le_refl _)).c4
          have k05 : ∀ u, Below wq.heap.size wq u → u.cell? ⟨G, 5, none⟩ = some (.slice x.NA x.numbers.length x.nk) := fun u h => (HG3.out.below h (Nat.le_refl _)).c5
          have k10 : ∀ u, Below wq.heap.size wq u → u.cell? ⟨MB, 0, none⟩ = some (.int .i64 y.op) := fun u h => (HM3.out.below h (Nat.le_refl _)).c0
          have k11 : ∀ u, Below wq.heap.size wq u → u.cell? ⟨MB, 1, none⟩ = some (.int .i64 y.err) := fun u h => (HM3.out.below h (Nat.le_refl _)).c1
          have k12 : ∀ u, Below wq.heap.size wq u → u.cell? ⟨MB, 2, none⟩ = some (.slice y.IA y.items.length y.ik) := fun u h => (HM3.out.below h (Nat.le_refl _)).c2
          have k13 : ∀ u, Below wq.heap.size wq u → u.cell? ⟨MB, 3, none⟩ = some (.int .u64 (y.version : Int)) := fun u h => (HM3.out.below h (Nat.le_refl _)).c3
          have k14 : ∀ u, Below wq.heap.size wq u → u.cell? ⟨MB, 4, none⟩ = some (.int .i64 y.count) := fun u h => (HM3.out.below h (Nat.le_refl _)).c4
          have k15 : ∀ u, Below wq.heap.size wq u → u.cell? ⟨MB, 5, none⟩ = some (.slice y.NA y.numbers.length y.nk) := fun u h => (HM3.out.below h (Nat.le_refl _)).c5
          have k20 : ∀ u, Below wq.heap.size wq u → u.cell? ⟨NB, 0, none⟩ = some (.int .i64 z.op) := fun u h => (HN3.out.below h (Nat.le_refl _)).c0
          have k21 : ∀ u, Below wq.heap.size wq u → u.cell? ⟨NB, 1, none⟩ = some (.int .i64 z.err) := fun u h => (HN3.out.below h (Nat.le_refl _)).c1
          have k22 : ∀ u, Below wq.heap.size wq u → u.cell? ⟨NB, 2, none⟩ = some (.slice z.IA z.items.length z.ik) := fun u h => (HN3.out.below h (Nat.le_refl _)).c2
          have k23 : ∀ u, Below wq.heap.size wq u → u.cell? ⟨NB, 3, none⟩ = some (.int .u64 (z.version : Int)) := fun u h => (HN3.out.below h (Nat.le_refl _)).c3
          have k24 : ∀ u, Below wq.heap.size wq u → u.cell? ⟨NB, 4, none⟩ = some (.int .i64 z.count) := fun u h => (HN3.out.below h (Nat.le_refl _)).c4
          have k25 : ∀ u, Below wq.heap.size wq u → u.cell? ⟨NB, 5, none⟩ = some (.slice z.NA z.numbers.length z.nk) := fun u h => (HN3.out.below h (Nat.le_refl _)).c5
          have HFL : Hid (∀ W op e, Calls Try.prog 14 #[.int .i64 op, .int .i64 e] W (fun en w' => en = .returned (.agg #[.int .i64 op, .int .i64 e, .slice none 0 0, .int .u64 0, .int .i64 0, .slice none 0 0]) ∧ Below W.heap.size W w')) := fun W op e => Sc.fail_any op e W
          go_wp2_with fail
          refine wp_region_noPanic ?_
          refine wp_region_held_drew (S := fun u => Below wq.heap.size wq u) (by kernel_rfl) ((Below.refl _ _).drew) (fun hHeld => ?_)
          refine wpAnyH_take (i := 0) (oi := ⟨some 70, _, _, _, _, _⟩) (v := ?_) rfl (by kernel_rfl) (by kernel_rfl) (by kernel_rfl) (fun _ _ _ h => h) (Or.inl ⟨by rfl, ?_⟩) (by assumption) ?_
          rotate_left
          · intro w hSw; go_simp; first | done | with_reducible rfl
          try simp only [Act.put, List.setIfInBounds_toArray, List.set_cons_zero, List.set_cons_succ]
          refine wpAnyH_take (i := 1) (oi := ⟨some 71, _, _, _, _, _⟩) (v := ?_) rfl (by kernel_rfl) (by kernel_rfl) (by kernel_rfl) (fun _ _ _ h => h) (Or.inl ⟨by rfl, ?_⟩) (by assumption) ?_
          rotate_left
          · intro w hSw; go_simp; first | done | with_reducible rfl
          try simp only [Act.put, List.setIfInBounds_toArray, List.set_cons_zero, List.set_cons_succ]
          refine wpAnyH_take (i := 2) (oi := ⟨some 72, _, _, _, _, _⟩) (v := ?_) rfl (by kernel_rfl) (by kernel_rfl) (by kernel_rfl) (fun _ _ _ h => h) (Or.inl ⟨by rfl, ?_⟩) (by assumption) ?_
          rotate_left
          · intro w hSw; go_simp; first | done | with_reducible rfl
          try simp only [Act.put, List.setIfInBounds_toArray, List.set_cons_zero, List.set_cons_succ]
          refine wpAnyH_take (i := 3) (oi := ⟨some 73, _, _, _, _, _⟩) (v := ?_) rfl (by kernel_rfl) (by kernel_rfl) (by kernel_rfl) (fun _ _ _ h => h) (Or.inl ⟨by rfl, ?_⟩) (by assumption) ?_
          rotate_left
          · intro w hSw; go_simp; first | done | with_reducible rfl
          try simp only [Act.put, List.setIfInBounds_toArray, List.set_cons_zero, List.set_cons_succ]
          refine wpAnyH_take (i := 4) (oi := ⟨some 74, _, _, _, _, _⟩) (v := ?_) rfl (by kernel_rfl) (by kernel_rfl) (by kernel_rfl) (fun _ _ _ h => h) (Or.inl ⟨by rfl, ?_⟩) (by assumption) ?_
          rotate_left
          · intro w hSw; go_simp; first | done | with_reducible rfl
          try simp only [Act.put, List.setIfInBounds_toArray, List.set_cons_zero, List.set_cons_succ]
          refine wpAnyH_take (i := 5) (oi := ⟨some 75, _, _, _, _, _⟩) (v := ?_) rfl (by kernel_rfl) (by kernel_rfl) (by kernel_rfl) (fun _ _ _ h => h) (Or.inl ⟨by rfl, ?_⟩) (by assumption) ?_
          rotate_left
          · intro w hSw; go_simp; first | done | with_reducible rfl
          try simp only [Act.put, List.setIfInBounds_toArray, List.set_cons_zero, List.set_cons_succ]
          refine wpAnyH_take (i := 6) (oi := ⟨some 76, _, _, _, _, _⟩) (v := ?_) rfl (by kernel_rfl) (by kernel_rfl) (by kernel_rfl) (fun _ _ _ h => h) (Or.inl ⟨by rfl, ?_⟩) (by assumption) ?_
          rotate_left
          · intro w hSw; go_simp; first | done | with_reducible rfl
          try simp only [Act.put, List.setIfInBounds_toArray, List.set_cons_zero, List.set_cons_succ]
          refine wpAnyH_take (i := 7) (oi := ⟨some 77, _, _, _, _, _⟩) (v := ?_) rfl (by kernel_rfl) (by kernel_rfl) (by kernel_rfl) (fun _ _ _ h => h) (Or.inl ⟨by rfl, ?_⟩) (by assumption) ?_
          rotate_left
          · intro w hSw; go_simp; first | done | with_reducible rfl
          try simp only [Act.put, List.setIfInBounds_toArray, List.set_cons_zero, List.set_cons_succ]
          refine wpAnyH_take (i := 8) (oi := ⟨some 78, _, _, _, _, _⟩) (v := ?_) rfl (by kernel_rfl) (by kernel_rfl) (by kernel_rfl) (fun _ _ _ h => h) (Or.inl ⟨by rfl, ?_⟩) (by assumption) ?_
          rotate_left
          · intro w hSw; go_simp; first | done | with_reducible rfl
          try simp only [Act.put, List.setIfInBounds_toArray, List.set_cons_zero, List.set_cons_succ]
          refine wpAnyH_take (i := 9) (oi := ⟨some 79, _, _, _, _, _⟩) (v := ?_) rfl (by kernel_rfl) (by kernel_rfl) (by kernel_rfl) (fun _ _ _ h => h) (Or.inl ⟨by rfl, ?_⟩) (by assumption) ?_
          rotate_left
          · intro w hSw; go_simp; first | done | with_reducible rfl
          try simp only [Act.put, List.setIfInBounds_toArray, List.set_cons_zero, List.set_cons_succ]
          refine wpAnyH_take (i := 10) (oi := ⟨some 80, _, _, _, _, _⟩) (v := ?_) rfl (by kernel_rfl) (by kernel_rfl) (by kernel_rfl) (fun _ _ _ h => h) (Or.inl ⟨by rfl, ?_⟩) (by assumption) ?_
          rotate_left
          · intro w hSw; go_simp; first | done | with_reducible rfl
          try simp only [Act.put, List.setIfInBounds_toArray, List.set_cons_zero, List.set_cons_succ]
          refine wpAnyH_take (i := 12) (oi := ⟨some 82, _, _, _, _, _⟩) (v := ?_) rfl (by kernel_rfl) (by kernel_rfl) (by kernel_rfl) (fun _ _ _ h => h) (Or.inl ⟨by rfl, ?_⟩) (by assumption) ?_
          rotate_left
          · intro w hSw; go_simp; first | done | with_reducible rfl
          try simp only [Act.put, List.setIfInBounds_toArray, List.set_cons_zero, List.set_cons_succ]
          refine wpAnyH_take (i := 13) (oi := ⟨some 83, _, _, _, _, _⟩) (v := ?_) rfl (by kernel_rfl) (by kernel_rfl) (by kernel_rfl) (fun _ _ _ h => h) (Or.inl ⟨by rfl, ?_⟩) (by assumption) ?_
          rotate_left
          · intro w hSw; go_simp; first | done | with_reducible rfl
          try simp only [Act.put, List.setIfInBounds_toArray, List.set_cons_zero, List.set_cons_succ]
          refine wpAnyH_take (i := 17) (oi := ⟨some 87, _, _, _, _, _⟩) (v := ?_) rfl (by kernel_rfl) (by kernel_rfl) (by kernel_rfl) (fun _ _ _ h => h) (Or.inl ⟨by rfl, ?_⟩) (by assumption) ?_
          rotate_left
          · intro w hSw; go_simp; first | done | with_reducible rfl
          try simp only [Act.put, List.setIfInBounds_toArray, List.set_cons_zero, List.set_cons_succ]
          refine wpAnyH_ready (rs := [11]) (by kernel_rfl) (by simp) ?_
          refine AllReadyH.cons (o := ⟨some 81, _, _, _, _, _⟩) rfl (fun K hK => ?_) AllReadyH.nil
          go_simp
          with_reducible refine (HFL.out _ _ _).mono ?_
          rintro e u1 ⟨rfl, bx⟩
          have HU1 : Hid (Below wq.heap.size wq u1) := hHeld.trans (bx.mono hHeld.size)
          clear bx
          go_simp
          refine hK.out _ _ (HU1.out) (fun hHeld => ?_)
          clear hK K
          try simp only [Act.put, List.setIfInBounds_toArray, List.set_cons_zero, List.set_cons_succ]
          refine wpAnyH_ready (rs := [14]) (by kernel_rfl) (by simp) ?_
          refine AllReadyH.cons (o := ⟨some 84, _, _, _, _, _⟩) rfl (fun K hK => ?_) AllReadyH.nil
          go_simp
          with_reducible refine (HFL.out _ _ _).mono ?_
          rintro e u2 ⟨rfl, bx⟩
          have HU2 : Hid (Below wq.heap.size wq u2) := hHeld.trans (bx.mono hHeld.size)
          clear bx
          go_simp
          refine hK.out _ _ (HU2.out) (fun hHeld => ?_)
          clear hK K
          try simp only [Act.put, List.setIfInBounds_toArray, List.set_cons_zero, List.set_cons_succ]
          refine wpAnyH_ready (rs := [15]) (by kernel_rfl) (by simp) ?_
          refine AllReadyH.cons (o := ⟨some 85, _, _, _, _, _⟩) rfl (fun K hK => ?_) AllReadyH.nil
          go_simp
          refine hK.out _ _ (hHeld.alloc hHeld.size _) (fun hHeld => ?_)
          clear hK K
          try simp only [Act.put, List.setIfInBounds_toArray, List.set_cons_zero, List.set_cons_succ]
          refine wpAnyH_ready (rs := [16]) (by kernel_rfl) (by simp) ?_
          refine AllReadyH.cons (o := ⟨some 86, _, _, _, _, _⟩) rfl (fun K hK => ?_) AllReadyH.nil
          go_simp
          refine hK.out _ _ (hHeld) (fun hHeld => ?_)
          clear hK K
          try simp only [Act.put, List.setIfInBounds_toArray, List.set_cons_zero, List.set_cons_succ]
          refine wpAnyH_done (by kernel_rfl) ?_ _
          refine NoPanic.normal ?_
          obtain ⟨xs, hxs⟩ : ∃ xs, xs = [x, y, z, bareX 7 0 0 (1099511627776 + great), bareX 2 0 18446744073709551615 (1099511627776 + great), bareX 0 (100000 + great) 0 0, bareX 15 (100000 + great) 0 0] := ⟨_, rfl⟩
          have hxl : xs.length = 7 := by rw [hxs]; rfl
          obtain ⟨w3, hw3⟩ : ∃ w3, w3 = u2.alloc (.cells (rsL xs).toArray 28) := ⟨_, rfl⟩
          obtain ⟨b, hb⟩ : ∃ b, b = u2.heap.size := ⟨_, rfl⟩
          have HB3 : Hid (Below wq.heap.size wq w3) := by show Below _ _ _; rw [hw3]; exact HU2.out.alloc HU2.out.size _
          have HL3 : Hid (b < w3.heap.size) := by show _ < _; rw [hw3, hb]; simp
          have HRS : Hid (∀ u, Below w3.heap.size w3 u → ∀ j i, j < 7 → i < 6 → ∀ x', xs[j]? = some x' → u.cell? ⟨b, j * 6 + i, none⟩ = (resC x')[i]?) := fun u h j i hj hi x' hx' => by
            obtain ⟨hj', hxj⟩ := List.getElem?_eq_some_iff.1 hx'
            rw [h.cell (p := ⟨b, j * 6 + i, none⟩) HL3.out, hw3, hb, cell_of_row _ _ _ _ _ (0, 0) (heap_alloc_new _ _), List.getElem?_toArray, rsL_get xs j i hj' hi, hxj]
          have HLL : Hid (∀ x' ∈ xs, Lng w3 x') := fun x' hx' => by
            rw [hxs] at hx'
            simp only [List.mem_cons, List.not_mem_nil, or_false] at hx'
            rcases hx' with rfl | rfl | rfl | rfl | rfl | rfl | rfl
            · exact LG.out.below HB3.out (Nat.le_refl _)
            · exact LM.out.below HB3.out (Nat.le_refl _)
            · exact LN.out.below HB3.out (Nat.le_refl _)
            · exact LD.out _
            · exact LA.out _
            · exact LF.out _ 0 (Or.inl rfl)
            · exact LF.out _ 15 (Or.inr rfl)
          have hcs : (rsL xs).toArray = List.toArray (.int .i64 x.op :: .int .i64 x.err :: .slice x.IA x.items.length x.ik :: .int .u64 (x.version : Int) :: .int .i64 x.count :: .slice x.NA x.numbers.length x.nk :: .int .i64 y.op :: .int .i64 y.err :: .slice y.IA y.items.length y.ik :: .int .u64 (y.version : Int) :: .int .i64 y.count :: .slice y.NA y.numbers.length y.nk :: .int .i64 z.op :: .int .i64 z.err :: .slice z.IA z.items.length z.ik :: .int .u64 (z.version : Int) :: .int .i64 z.count :: .slice z.NA z.numbers.length z.nk :: .int .i64 7 :: .int .i64 0 :: .slice none 0 0 :: .int .u64 0 :: .int .i64 (1099511627776 + great) :: .slice none 0 0 :: .int .i64 2 :: .int .i64 0 :: .slice none 0 0 :: .int .u64 18446744073709551615 :: .int .i64 (1099511627776 + great) :: .slice none 0 0 :: .int .i64 0 :: .int .i64 (100000 + great) :: .slice none 0 0 :: .int .u64 0 :: .int .i64 0 :: .slice none 0 0 :: .int .i64 15 :: .int .i64 (100000 + great) :: .slice none 0 0 :: .int .u64 0 :: .int .i64 0 :: .slice none 0 0 :: []) := by rw [hxs]; rfl
          rw [hcs] at hw3
          have ew1 : IntKind.i64.wrap (1099511627776 + great) = 1099511627776 + great := by rw [IntKind.wrap_i64]; omega
          have ew2 : IntKind.i64.wrap (100000 + great) = 100000 + great := by rw [IntKind.wrap_i64]; omega
          rw [ew1, ew2]
          rw [← hw3, ← hb]
          clear ew1 ew2
          have HBW3 : Hid (Below w.heap.size w w3) := HBq.out.trans (HB3.out.mono HBq.out.size)
          have HXL := Lib.hid hxl
          clear hw3 hb hcs hxs hxl LG LM LN LD LA LF HG3 HM3 HN3 HFL HU1 HU2 HBq HB3 hHeld
          clear k00 k01 k02 k03 k04 k05 k10 k11 k12 k13 k14 k15 k20 k21 k22 k23 k24 k25
          go_wp2_with fail
          go_loopw [87] (fun i wr => ∃ j : Nat, j ≤ 7 ∧ i = .int .i64 (j : Int) ∧ Below w3.heap.size w3 wr) (fun i _ => 7 - (intOf i).toNat)
          case atStart => exact ⟨0, by omega, rfl, Below.refl _ _⟩
          case round =>
            obtain ⟨j, hj, rfl, hbw⟩ := hrel
            obtain ⟨w4, rfl⟩ : ∃ w4 : World, w4 = wr := ⟨_, rfl⟩
            have HB4 := Lib.hid hbw
            clear hbw
            by_cases hlt3 : j < 7
            · have i3 : (j : Int) < 7 := by omega
              obtain ⟨x, hx⟩ : ∃ x, xs[j]? = some x := ⟨_, List.getElem?_eq_getElem (by rw [HXL.out]; exact hlt3)⟩
              have HXM : Hid (x ∈ xs) := List.mem_of_getElem? hx
              have s0 : w4.cell? ⟨b, j * 6, none⟩ = some (.int .i64 x.op) := HRS.out w4 HB4.out j 0 hlt3 (by omega) x hx
              have s1 : w4.cell? ⟨b, j * 6 + 1, none⟩ = some (.int .i64 x.err) := HRS.out w4 HB4.out j 1 hlt3 (by omega) x hx
              have s2 : w4.cell? ⟨b, j * 6 + 2, none⟩ = some (.slice x.IA x.items.length x.ik) := HRS.out w4 HB4.out j 2 hlt3 (by omega) x hx
              have s3 : w4.cell? ⟨b, j * 6 + 3, none⟩ = some (.int .u64 (x.version : Int)) := HRS.out w4 HB4.out j 3 hlt3 (by omega) x hx
              have s4 : w4.cell? ⟨b, j * 6 + 4, none⟩ = some (.int .i64 x.count) := HRS.out w4 HB4.out j 4 hlt3 (by omega) x hx
              have s5 : w4.cell? ⟨b, j * 6 + 5, none⟩ = some (.slice x.NA x.numbers.length x.nk) := HRS.out w4 HB4.out j 5 hlt3 (by omega) x hx
              clear hx
              go_upto_region 16 with fail
              obtain ⟨w5, hw5⟩ : ∃ w5, w5 = w4.alloc (resO x) := ⟨_, rfl⟩
              have b5 : Below w4.heap.size w4 w5 := by rw [hw5]; exact alloc_below _ _
              have HX5 : Hid (BoxS w5 w4.heap.size x) := by show BoxS _ _ _; rw [hw5]; exact BoxS.new w4 x
              have HB5 := Lib.hid (HB4.out.trans (b5.mono HB4.out.size))
              have HG5 := Lib.hid ((HLL.out x HXM.out).below HB5.out (Nat.le_refl _))
              obtain ⟨D, hD⟩ : ∃ D, D = w4.heap.size := ⟨_, rfl⟩
              unfold resO at hw5
              rw [← hD] at HX5
              rw [← hw5, ← hD]
              clear hw5 b5 hD s0 s1 s2 s3 s4 s5
              have HRC := Lib.hid (fun W (h : Below w5.heap.size w5 W) => HG5.out.rc.below h (Nat.le_refl _))
              have HBD := Lib.hid HG5.out.bnd
              obtain ⟨code, hcode⟩ : ∃ code, code = 64 + x.op := ⟨_, rfl⟩
              obtain ⟨P, hP⟩ : ∃ P, P = payS x.r := ⟨_, rfl⟩
              have hop := HG5.out.op
              have HCU : Hid (((codeU code).toNat : Int) = code) := codeU_int (by omega)
              have HPL : Hid (P.length ≤ 2000000) := by show _ ≤ _; rw [hP]; exact HG5.out.pay
              have HRF : Hid (readF (codeU code).toNat P = readS x.op P) := by show _ = _; rw [hcode]; exact readF_code hop P
              have HV1 : Hid (∀ W, Below w5.heap.size w5 W → Calls Try.prog 10 #[resV x] W (boolOf (validS x.r) W)) := fun W h => Sv.rvalid_any x W (HRC.out W h) HBD.out
              have HV2 : Hid (∀ W, Below w5.heap.size w5 W → Calls Try.prog 9 #[resV x] W (boolOf (validS x.r) W)) := fun W h => Sg.valid_any x W (HRC.out W h) HBD.out
              have HRW : Hid (∀ W, Below w5.heap.size w5 W → Calls Try.prog 19 #[resV x] W (fun e w' => ∃ A k, e = .returned (.agg #[.int .u8 code, .slice A P.length k]) ∧ Fre W.heap.size w' A P k ∧ Below W.heap.size W w')) := fun W h => by rw [hcode, hP]; exact rwr_any x W (HRC.out W h) HBD.out HG5.out.items hop.1 hop.2 HG5.out.err HG5.out.count HG5.out.mark
              unfold resV at HV1 HV2 HRW
              have HPE := Lib.hid hP
              have HCE := Lib.hid hcode
              clear hop hP hcode
              obtain ⟨c0, c1, c2, c3, c4, c5, _⟩ := HX5.out
              cases hv : validS x.r
              · have HW2 : Hid (∀ W, Below w5.heap.size w5 W → Calls Try.prog 15 #[resV x, .agg #[.int .u8 0, .slice none 0 0], .int .i64 2] W (boolOf true W)) := fun W h => by
                  have q := writes_any x 0 none [] 0 2 W (HRC.out W h) HBD.out (Rb.nil _ _)
                  rw [wrB_true (by unfold wrC; rw [hv]; rfl) (by unfold wrP; rw [hv]; rfl) (by unfold wrE; rw [hv]; rfl)] at q
                  exact q
                have HR2 : Hid (∀ W A k, Below w5.heap.size w5 W → Rb W A P → Calls Try.prog 21 #[.agg #[.int .u8 code, .slice A P.length k], .agg #[.int .i64 0, .int .i64 0, .slice none 0 0, .int .u64 0, .int .i64 0, .slice none 0 0], .int .i64 6] W (boolOf true W)) := fun W A k h hA => by
                  have q := reads_any (codeU code) A P k (startS 0 0) 6 W hA HPL.out (gotS_zero 0 W).rc (gotS_zero 0 W).bnd
                  have e : rdB (codeU code).toNat P (startS 0 0).r 6 = true := by
                    unfold rdB
                    rw [HRF.out, HPE.out, HG5.out.no hv]
                    show (eqR (bareR 0 0) (bareR 0 0) && decide ((6 : Int) = 6)) = true
                    rw [eqR_self]; rfl
                  rw [e, HCU.out] at q; exact q
                unfold resV at HW2
                rw [hv] at HV1 HV2
                clear hv
                go_wp2_with fail
                refine (HV1.out _ (Below.refl _ _)).mono ?_
                rintro e w6 ⟨rfl, b6⟩
                have HB6 := Lib.hid b6
                have HX6 := Lib.hid (HX5.out.below b6 (Nat.le_refl _))
                clear b6 c0 c1 c2 c3 c4 c5
                obtain ⟨c0, c1, c2, c3, c4, c5, _⟩ := HX6.out
                go_wp2_with fail
                refine (HV2.out _ HB6.out).mono ?_
                rintro e w7 ⟨rfl, b7⟩
                have HB7 := Lib.hid (HB6.out.trans (b7.mono HB6.out.size))
                have HX7 := Lib.hid (HX6.out.below b7 (Nat.le_refl _))
                clear b7 c0 c1 c2 c3 c4 c5
                obtain ⟨c0, c1, c2, c3, c4, c5, _⟩ := HX7.out
                go_wp2_with fail
                refine (HW2.out _ HB7.out).mono ?_
                rintro e w8 ⟨rfl, b8⟩
                have HB8 := Lib.hid (HB7.out.trans (b8.mono HB7.out.size))
                have HX8 := Lib.hid (HX7.out.below b8 (Nat.le_refl _))
                clear b8 c0 c1 c2 c3 c4 c5
                obtain ⟨c0, c1, c2, c3, c4, c5, _⟩ := HX8.out
                go_wp2_with fail
                with_reducible refine (HRW.out _ HB8.out).mono ?_
                rintro e w9 ⟨A, d, rfl, hf, b9⟩
                have HB9 := Lib.hid (HB8.out.trans (b9.mono HB8.out.size))
                have HF9 := Lib.hid hf.rd
                clear b9 hf c0 c1 c2 c3 c4 c5
                go_wp2_with fail
                refine (HR2.out _ A d HB9.out HF9.out).mono ?_
                rintro e wa ⟨rfl, ba⟩
                have HBa := Lib.hid (HB9.out.trans (ba.mono HB9.out.size))
                clear ba
                go_wp2_with fail
                go_roundw
                case rel => exact ⟨j + 1, by omega, by go_num, HB5.out.trans (HBa.out.mono HB5.out.size)⟩
                case measure => simp [intOf]; omega
              · have HW2 : Hid (∀ W A k, Below w5.heap.size w5 W → Rb W A P → Calls Try.prog 15 #[resV x, .agg #[.int .u8 code, .slice A P.length k], .int .i64 0] W (boolOf true W)) := fun W A k h hA => by
                  have q := writes_any x (codeU code) A P k 0 W (HRC.out W h) HBD.out hA
                  rw [wrB_true (by rw [HCU.out, HCE.out]; unfold wrC; rw [hv]; rfl) (by rw [HPE.out]; unfold wrP; rw [hv]; rfl) (by unfold wrE; rw [hv]; rfl), HCU.out] at q
                  exact q
                have HR2 : Hid (∀ W A k, Below w5.heap.size w5 W → Rb W A P → Calls Try.prog 21 #[.agg #[.int .u8 code, .slice A P.length k], resV x, .int .i64 0] W (boolOf true W)) := fun W A k h hA => by
                  have q := reads_any (codeU code) A P k x 0 W hA HPL.out (HRC.out W h) HBD.out
                  have e : rdB (codeU code).toNat P x.r 0 = true := by
                    have hb := read_writeS x.r HG5.out.small hv
                    unfold rdB
                    rw [HRF.out, HPE.out, show x.op = x.r.op from rfl, hb]
                    show (eqR x.r x.r && decide ((0 : Int) = 0)) = true
                    rw [eqR_self]; rfl
                  rw [e, HCU.out] at q; exact q
                unfold resV at HW2 HR2
                rw [hv] at HV1 HV2
                clear hv
                go_wp2_with fail
                refine (HV1.out _ (Below.refl _ _)).mono ?_
                rintro e w6 ⟨rfl, b6⟩
                have HB6 := Lib.hid b6
                have HX6 := Lib.hid (HX5.out.below b6 (Nat.le_refl _))
                clear b6 c0 c1 c2 c3 c4 c5
                have k0 : ∀ u, Below w6.heap.size w6 u → u.cell? ⟨D, 0, none⟩ = some (.int .i64 x.op) := fun u h => (HX6.out.below h (Nat.le_refl _)).c0
                have k1 : ∀ u, Below w6.heap.size w6 u → u.cell? ⟨D, 1, none⟩ = some (.int .i64 x.err) := fun u h => (HX6.out.below h (Nat.le_refl _)).c1
                have k2 : ∀ u, Below w6.heap.size w6 u → u.cell? ⟨D, 2, none⟩ = some (.slice x.IA x.items.length x.ik) := fun u h => (HX6.out.below h (Nat.le_refl _)).c2
                have k3 : ∀ u, Below w6.heap.size w6 u → u.cell? ⟨D, 3, none⟩ = some (.int .u64 (x.version : Int)) := fun u h => (HX6.out.below h (Nat.le_refl _)).c3
                have k4 : ∀ u, Below w6.heap.size w6 u → u.cell? ⟨D, 4, none⟩ = some (.int .i64 x.count) := fun u h => (HX6.out.below h (Nat.le_refl _)).c4
                have k5 : ∀ u, Below w6.heap.size w6 u → u.cell? ⟨D, 5, none⟩ = some (.slice x.NA x.numbers.length x.nk) := fun u h => (HX6.out.below h (Nat.le_refl _)).c5
                have T6 : Hid (∀ W, Below w6.heap.size w6 W → Below w5.heap.size w5 W) := fun W h => HB6.out.trans (h.mono HB6.out.size)
                go_wp2_with fail
                refine wp_region_noPanic ?_
                refine wp_region_held_drew (S := fun u => Below w6.heap.size w6 u) (by kernel_rfl) ((Below.refl _ _).drew) (fun hHeld => ?_)
                refine wpAnyH_take (i := 0) (oi := ⟨some 109, _, _, _, _, _⟩) (v := ?_) rfl (by kernel_rfl) (by kernel_rfl) (by kernel_rfl) (fun _ _ _ h => h) (Or.inl ⟨by rfl, ?_⟩) (by assumption) ?_
                rotate_left
                · intro w hSw; go_simp; first | done | with_reducible rfl
                try simp only [Act.put, List.setIfInBounds_toArray, List.set_cons_zero, List.set_cons_succ]
                refine wpAnyH_ready (rs := [1]) (by kernel_rfl) (by simp) ?_
                refine AllReadyH.cons (o := ⟨some 110, _, _, _, _, _⟩) rfl (fun K hK => ?_) AllReadyH.nil
                go_simp
                with_reducible refine (HV2.out _ (T6.out _ hHeld)).mono ?_
                rintro e u1 ⟨rfl, b1⟩
                have HU1 : Hid (Below w6.heap.size w6 u1) := hHeld.trans (b1.mono hHeld.size)
                clear b1
                go_simp
                refine hK.out _ _ (HU1.out) (fun hHeld => ?_)
                clear hK K
                try simp only [Act.put, List.setIfInBounds_toArray, List.set_cons_zero, List.set_cons_succ]
                refine wpAnyH_take (i := 2) (oi := ⟨some 111, _, _, _, _, _⟩) (v := ?_) rfl (by kernel_rfl) (by kernel_rfl) (by kernel_rfl) (fun _ _ _ h => h) (Or.inl ⟨by rfl, ?_⟩) (by assumption) ?_
                rotate_left
                · intro w hSw; go_simp; first | done | with_reducible rfl
                try simp only [Act.put, List.setIfInBounds_toArray, List.set_cons_zero, List.set_cons_succ]
                refine wpAnyH_take (i := 3) (oi := ⟨some 112, _, _, _, _, _⟩) (v := ?_) rfl (by kernel_rfl) (by kernel_rfl) (by kernel_rfl) (fun _ _ _ h => h) (Or.inl ⟨by rfl, ?_⟩) (by assumption) ?_
                rotate_left
                · intro w hSw; go_simp; first | done | with_reducible rfl
                try simp only [Act.put, List.setIfInBounds_toArray, List.set_cons_zero, List.set_cons_succ]
                refine wpAnyH_take (i := 4) (oi := ⟨some 113, _, _, _, _, _⟩) (v := ?_) rfl (by kernel_rfl) (by kernel_rfl) (by kernel_rfl) (fun _ _ _ h => h) (Or.inl ⟨by rfl, ?_⟩) (by assumption) ?_
                rotate_left
                · intro w hSw; go_simp; first | done | with_reducible rfl
                try simp only [Act.put, List.setIfInBounds_toArray, List.set_cons_zero, List.set_cons_succ]
                refine wpAnyH_take (i := 5) (oi := ⟨some 114, _, _, _, _, _⟩) (v := ?_) rfl (by kernel_rfl) (by kernel_rfl) (by kernel_rfl) (fun _ _ _ h => h) (Or.inl ⟨by rfl, ?_⟩) (by assumption) ?_
                rotate_left
                · intro w hSw; go_simp; first | done | with_reducible rfl
                try simp only [Act.put, List.setIfInBounds_toArray, List.set_cons_zero, List.set_cons_succ]
                refine wpAnyH_ready (rs := [6]) (by kernel_rfl) (by simp) ?_
                refine AllReadyH.cons (o := ⟨some 115, _, _, _, _, _⟩) rfl (fun K hK => ?_) AllReadyH.nil
                go_simp
                with_reducible refine (HRW.out _ (T6.out _ hHeld)).mono ?_
                rintro e u2 ⟨A, d, rfl, hf, b2⟩
                have HU2 : Hid (Below w6.heap.size w6 u2) := hHeld.trans (b2.mono hHeld.size)
                have HW3 := Lib.hid (HW2.out u2 A d (T6.out _ HU2.out) hf.rd)
                clear b2 hf
                go_simp
                refine hK.out _ _ (HU2.out) (fun hHeld => ?_)
                clear hK K
                try simp only [Act.put, List.setIfInBounds_toArray, List.set_cons_zero, List.set_cons_succ]
                refine wpAnyH_ready (rs := [7]) (by kernel_rfl) (by simp) ?_
                refine AllReadyH.cons (o := ⟨some 116, _, _, _, _, _⟩) rfl (fun K hK => ?_) AllReadyH.nil
                go_simp
                with_reducible refine (HW3.out).mono ?_
                rintro e u3 ⟨rfl, b3⟩
                have HU3 : Hid (Below w6.heap.size w6 u3) := hHeld.trans (b3.mono hHeld.size)
                clear b3
                go_simp
                refine hK.out _ _ (HU3.out) (fun hHeld => ?_)
                clear hK K
                try simp only [Act.put, List.setIfInBounds_toArray, List.set_cons_zero, List.set_cons_succ]
                refine wpAnyH_take (i := 8) (oi := ⟨some 117, _, _, _, _, _⟩) (v := ?_) rfl (by kernel_rfl) (by kernel_rfl) (by kernel_rfl) (fun _ _ _ h => h) (Or.inl ⟨by rfl, ?_⟩) (by assumption) ?_
                rotate_left
                · intro w hSw; go_simp; first | done | with_reducible rfl
                try simp only [Act.put, List.setIfInBounds_toArray, List.set_cons_zero, List.set_cons_succ]
                refine wpAnyH_take (i := 9) (oi := ⟨some 118, _, _, _, _, _⟩) (v := ?_) rfl (by kernel_rfl) (by kernel_rfl) (by kernel_rfl) (fun _ _ _ h => h) (Or.inl ⟨by rfl, ?_⟩) (by assumption) ?_
                rotate_left
                · intro w hSw; go_simp; first | done | with_reducible rfl
                try simp only [Act.put, List.setIfInBounds_toArray, List.set_cons_zero, List.set_cons_succ]
                refine wpAnyH_take (i := 10) (oi := ⟨some 119, _, _, _, _, _⟩) (v := ?_) rfl (by kernel_rfl) (by kernel_rfl) (by kernel_rfl) (fun _ _ _ h => h) (Or.inl ⟨by rfl, ?_⟩) (by assumption) ?_
                rotate_left
                · intro w hSw; go_simp; first | done | with_reducible rfl
                try simp only [Act.put, List.setIfInBounds_toArray, List.set_cons_zero, List.set_cons_succ]
                refine wpAnyH_take (i := 11) (oi := ⟨some 120, _, _, _, _, _⟩) (v := ?_) rfl (by kernel_rfl) (by kernel_rfl) (by kernel_rfl) (fun _ _ _ h => h) (Or.inl ⟨by rfl, ?_⟩) (by assumption) ?_
                rotate_left
                · intro w hSw; go_simp; first | done | with_reducible rfl
                try simp only [Act.put, List.setIfInBounds_toArray, List.set_cons_zero, List.set_cons_succ]
                refine wpAnyH_take (i := 13) (oi := ⟨some 122, _, _, _, _, _⟩) (v := ?_) rfl (by kernel_rfl) (by kernel_rfl) (by kernel_rfl) (fun _ _ _ h => h) (Or.inl ⟨by rfl, ?_⟩) (by assumption) ?_
                rotate_left
                · intro w hSw; go_simp; first | done | with_reducible rfl
                try simp only [Act.put, List.setIfInBounds_toArray, List.set_cons_zero, List.set_cons_succ]
                refine wpAnyH_ready (rs := [12]) (by kernel_rfl) (by simp) ?_
                refine AllReadyH.cons (o := ⟨some 121, _, _, _, _, _⟩) rfl (fun K hK => ?_) AllReadyH.nil
                go_simp
                with_reducible refine (HRW.out _ (T6.out _ hHeld)).mono ?_
                rintro e u4 ⟨A4, d4, rfl, hf, b4⟩
                have HU4 : Hid (Below w6.heap.size w6 u4) := hHeld.trans (b4.mono hHeld.size)
                have HR3 := Lib.hid (HR2.out u4 A4 d4 (T6.out _ HU4.out) hf.rd)
                clear b4 hf
                go_simp
                refine hK.out _ _ (HU4.out) (fun hHeld => ?_)
                clear hK K
                try simp only [Act.put, List.setIfInBounds_toArray, List.set_cons_zero, List.set_cons_succ]
                refine wpAnyH_ready (rs := [14]) (by kernel_rfl) (by simp) ?_
                refine AllReadyH.cons (o := ⟨some 123, _, _, _, _, _⟩) rfl (fun K hK => ?_) AllReadyH.nil
                go_simp
                with_reducible refine (HR3.out).mono ?_
                rintro e u5 ⟨rfl, b5⟩
                have HU5 : Hid (Below w6.heap.size w6 u5) := hHeld.trans (b5.mono hHeld.size)
                clear b5
                go_simp
                refine hK.out _ _ (HU5.out) (fun hHeld => ?_)
                clear hK K
                try simp only [Act.put, List.setIfInBounds_toArray, List.set_cons_zero, List.set_cons_succ]
                refine wpAnyH_take (i := 15) (oi := ⟨some 124, _, _, _, _, _⟩) (v := ?_) rfl (by kernel_rfl) (by kernel_rfl) (by kernel_rfl) (fun _ _ _ h => h) (Or.inl ⟨by rfl, ?_⟩) (by assumption) ?_
                rotate_left
                · intro w hSw; go_simp; first | done | with_reducible rfl
                try simp only [Act.put, List.setIfInBounds_toArray, List.set_cons_zero, List.set_cons_succ]
                refine wpAnyH_take (i := 16) (oi := ⟨some 125, _, _, _, _, _⟩) (v := ?_) rfl (by kernel_rfl) (by kernel_rfl) (by kernel_rfl) (fun _ _ _ h => h) (Or.inl ⟨by rfl, ?_⟩) (by assumption) ?_
                rotate_left
                · intro w hSw; go_simp; first | done | with_reducible rfl
                try simp only [Act.put, List.setIfInBounds_toArray, List.set_cons_zero, List.set_cons_succ]
                refine wpAnyH_done (by kernel_rfl) ?_ _
                refine NoPanic.normal ?_
                go_wp2_with fail
                go_roundw
                case rel => exact ⟨j + 1, by omega, by go_num, HB5.out.trans ((T6.out _ HU5.out).mono HB5.out.size)⟩
                case measure => simp [intOf]; omega
            · obtain rfl : j = 7 := by omega
              have HB4W := Lib.hid (HBW3.out.trans (HB4.out.mono HBW3.out.size))
              go_wp2_with fail
              refine (HK.out _ HB4W.out).mono ?_
              rintro e w5 ⟨rfl, b5⟩
              have HB5 := Lib.hid (HB4W.out.trans (b5.mono HB4W.out.size))
              clear b5
              go_wp2_with fail
              go_ret
              exact ⟨rfl, HB5.out⟩
theorem longs_walk (more parts great : Int) (w : World) (_ : -9223372036854775808 ≤ more) (_ : more ≤ 9223372036854775807) (_ : -9223372036854775808 ≤ parts) (_ : parts ≤ 9223372036854775807) (_ : -9223372036854775808 ≤ great) (_ : great ≤ 9223372036854775807) : Calls Try.prog 6 #[.int .i64 more, .int .i64 parts, .int .i64 great] w (boolOf true w) := by
  by_cases h : more < -2 ∨ 2 < more ∨ parts < -2 ∨ 2 < parts ∨ great < -2 ∨ 2 < great
  · exact longs_over more parts great w h
  · exact longs_main more parts great w (by omega) (by omega) (by omega) (by omega) (by omega) (by omega)
end Go.Proofs.Ythlfahblnpijaaa.Szi
