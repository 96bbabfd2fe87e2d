/- Proves that the chapter's examples come out as it says: the law's known returns true. No condition. -/
import Derived.Test.YthabnffmlgppdaaPn
namespace Go.Proofs.Ythabnffmlgppdaa.Pj
open Go.RowKit Ap Mi Nw Rg Hm Tm Tn Ta Tb Pm Pa Pb Pc Pd Pe Pf Pg Ph Pn
open Tf (okK Gets Puts)
open Tg (Sets)
open Th (Dels)
open To (putT delT)
open Hw (sum_any)

abbrev ka : Key := [97]
abbrev kz : Key := [0]
abbrev kb : Key := [98]
def e0 : List (Cell Key) := List.replicate 8 none
def e1 : List (Cell Key) := [none, none, some (ka, 5), none, none, none, none, none]
def e2 : List (Cell Key) := [none, none, some (ka, 7), none, none, none, none, none]
def e3 : List (Cell Key) := [none, some (kz, 9), some (ka, 7), none, none, none, none, none]
def e4 : List (Cell Key) := [none, some (kz, 9), none, none, none, none, none, none]
theorem suma : mixI (sumL 0 ka) = 106061912290 := by decide +kernel
theorem sumz : mixI (sumL 0 kz) = 1082269761 := by decide +kernel
theorem homa (n : Nat) : hom 0 n ka = (106061912290 % (n : Int)).toNat := by unfold hom; rw [suma]
theorem homz (n : Nat) : hom 0 n kz = (1082269761 % (n : Int)).toNat := by unfold hom; rw [sumz]
theorem put1 : putT (hom 0) e0 ka 5 = e1 := by decide +kernel
theorem put3 : putT (hom 0) e2 kz 9 = e3 := by decide +kernel
theorem del4 : delT (hom 0) e3 2 = e4 := by decide +kernel
theorem no_of {c : List (Cell Key)} {k : Key} (h : ∀ o ∈ c, isK k o = false) : ∀ y, some (k, y) ∉ c := fun y hm => by
  have := h _ hm
  simp [isK] at this
theorem p01 : Puts 0 e0 ka 5 e1 0 := Or.inr (Or.inr ⟨by decide, ⟨5, rfl, put1.symm⟩, no_of (by decide), rfl⟩)
theorem p11 : Puts 0 e1 ka 6 e1 11 := Or.inr (Or.inl ⟨by decide, by omega, ⟨2, 5, rfl⟩, rfl, rfl⟩)
theorem g1a : Gets e1 ka 5 0 := Or.inr (Or.inl ⟨by decide, ⟨2, 5, rfl, rfl⟩, rfl⟩)
theorem g1b : Gets e1 kb 0 9 := Or.inr (Or.inr ⟨by decide, no_of (by decide), rfl, rfl⟩)
theorem s12 : Sets e1 ka 7 e2 5 0 := Or.inr (Or.inr ⟨by decide, ⟨2, 7, 5, rfl, rfl, rfl, rfl⟩, rfl⟩)
theorem g2a : Gets e2 ka 7 0 := Or.inr (Or.inl ⟨by decide, ⟨2, 7, rfl, rfl⟩, rfl⟩)
theorem p23 : Puts 0 e2 kz 9 e3 0 := Or.inr (Or.inr ⟨by decide, ⟨9, rfl, put3.symm⟩, no_of (by decide), rfl⟩)
theorem d34 : Dels 0 e3 ka e4 7 0 := Or.inr ⟨by decide, ⟨2, 7, rfl, rfl, del4.symm⟩, rfl⟩
theorem d44 : Dels 0 e4 ka e4 0 9 := Or.inl ⟨rfl, rfl, Or.inr (Or.inr ⟨by decide, no_of (by decide), rfl, rfl⟩), by omega⟩
theorem p44a : Puts 0 e4 [] 1 e4 2 := Or.inl ⟨Or.inl (by decide), rfl, rfl⟩
theorem p44b : Puts 0 e4 ka (-1) e4 2 := Or.inl ⟨Or.inr (by omega), rfl, rfl⟩
theorem len_e0 : e0.length = 8 := rfl
theorem len_e1 : e1.length = 8 := rfl
theorem len_e2 : e2.length = 8 := rfl
theorem len_e3 : e3.length = 8 := rfl
theorem len_e4 : e4.length = 8 := rfl
theorem pt_more {N : Nat} {w w' : World} {g : Nat} {seed : Int} {c : List (Cell Key)} (h : Pt (More (fun j => N ≤ j) w) w' g seed c) (hN : N ≤ w.heap.size) : Pt (fun j => N ≤ j) w' g seed c :=
  h.mono fun _ _ hf => hf.elim id (fun h => by omega)
/-- A table of the call's own, and what came before stands still. -/
structure Kn (N : Nat) (w w' : World) (g : Nat) (seed : Int) (c : List (Cell Key)) : Prop where
  t : Pt (fun j => N ≤ j) w' g seed c
  b : Below N w w'
  z : N ≤ w'.heap.size
section
variable {N : Nat} {w w1 : World} {g : Nat} {seed : Int} {c : List (Cell Key)}
theorem Kn.below {w2 : World} (h : Kn N w w1 g seed c) (hb : Below w1.heap.size w1 w2) : Kn N w w2 g seed c := ⟨h.t.below hb (Nat.le_refl _), h.b.trans (hb.mono h.z), Nat.le_trans h.z hb.size⟩
theorem Kn.put (h : Kn N w w1 g seed c) (k : Key) (hk : k.length ≤ 1000000) (hn : c.length ≤ 400000) {n e : Int} {c' : List (Cell Key)} (hx : n ≤ 9223372036854775807) (hP : Puts seed c k n c' e) :
    Calls Try.prog 15 #[.pointer (some ⟨g, 0, none⟩), .string ⟨k.toArray⟩, .int .i64 n] w1 fun q w2 => q = .returned (.int .i64 e) ∧ Kn N w w2 g seed c' :=
  (put_any h.t k hk hn hx hP).mono fun _ _ ⟨h1, h2, h3⟩ => ⟨h1, pt_more h2 h.z, h.b.trans (h3.below (fun _ h => h) h.z), Nat.le_trans h.z h3.size⟩
theorem Kn.del (h : Kn N w w1 g seed c) (k : Key) (hk : k.length ≤ 1000000) (hn : c.length ≤ 400000) {m e : Int} {c' : List (Cell Key)} (hP : Dels seed c k c' m e) :
    Calls Try.prog 26 #[.pointer (some ⟨g, 0, none⟩), .string ⟨k.toArray⟩] w1 fun q w2 => q = .returned (.tuple #[.int .i64 m, .int .i64 e]) ∧ Kn N w w2 g seed c' :=
  (del_any h.t k hk hn hP).mono fun _ _ ⟨h1, h2, h3⟩ => ⟨h1, pt_more h2 h.z, h.b.trans (h3.below (fun _ h => h) h.z), Nat.le_trans h.z h3.size⟩
theorem Kn.dels (h : Kn N w w1 g seed c) (k : Key) (hk : k.length ≤ 1000000) (hn : c.length ≤ 400000) {m e : Int} {c' : List (Cell Key)} (hP : Dels seed c k c' m e) :
    Calls Try.prog 19 #[.pointer (some ⟨g, 0, none⟩), .string ⟨k.toArray⟩, .int .i64 m, .int .i64 e] w1 fun q w2 => q = .returned (.bool true) ∧ Kn N w w2 g seed c' :=
  dels_true k m e (h.del k hk hn hP)
theorem Kn.set (h : Kn N w w1 g seed c) (k : Key) (hk : k.length ≤ 1000000) {n m e : Int} {c' : List (Cell Key)} (hx : n ≤ 9223372036854775807) (hP : Sets c k n c' m e) :
    Calls Try.prog 20 #[.pointer (some ⟨g, 0, none⟩), .string ⟨k.toArray⟩, .int .i64 n] w1 fun q w2 => q = .returned (.tuple #[.int .i64 m, .int .i64 e]) ∧ Kn N w w2 g seed c' :=
  (set_any h.t k hk hx hP).mono fun _ _ ⟨h1, h2, h3⟩ => ⟨h1, h2, h.b.trans (h3.below (fun _ h => h) h.z), Nat.le_trans h.z h3.size⟩
theorem Kn.gets (h : Kn N w w1 g seed c) (k : Key) (hk : k.length ≤ 1000000) {n e : Int} (hP : Gets c k n e) :
    Calls Try.prog 22 #[.pointer (some ⟨g, 0, none⟩), .string ⟨k.toArray⟩, .int .i64 n, .int .i64 e] w1 fun q w2 => q = .returned (.bool true) ∧ Kn N w w2 g seed c :=
  (gets_true k n e (get_any h.t k hk hP)).mono fun _ _ ⟨h1, h2⟩ => ⟨h1, h.below h2⟩
end
set_option maxRecDepth 100000 in
set_option maxHeartbeats 4000000 in
theorem known_any (w : World) : Calls Try.prog 9 #[] w (boolTo true w) := by
  unfold boolTo
  obtain ⟨N, hN⟩ : ∃ N, N = w.heap.size := ⟨_, rfl⟩
  rw [← hN]
  go_enter Try.func9, Try.ntmps9
  go_wp2_with fail
  refine (new_any 0 _ (by unfold U64; omega)).mono ?_
  rintro q w1 ⟨g, rfl, ht, hb⟩
  have K1 : Hid (Kn N w w1 g 0 e0) := by show Kn _ _ _ _ _ _; rw [hN]; exact ⟨ht, hb, hb.size⟩
  clear ht hb hN
  go_wp2_with fail
  refine (K1.out.put ka (by decide) (by decide) (by omega) p01).mono ?_
  rintro q w2 ⟨rfl, hk⟩
  have K2 := Lib.hid hk
  clear hk K1
  go_wp2_with fail
  refine (K2.out.put ka (by decide) (by decide) (by omega) p11).mono ?_
  rintro q w3 ⟨rfl, hk⟩
  have K3 := Lib.hid hk
  clear hk K2
  go_wp2_with fail
  refine (K3.out.gets ka (by decide) g1a).mono ?_
  rintro q w4 ⟨rfl, hk⟩
  have K4 := Lib.hid hk
  clear hk K3
  go_wp2_with fail
  refine (K4.out.gets kb (by decide) g1b).mono ?_
  rintro q w5 ⟨rfl, hk⟩
  have K5 := Lib.hid hk
  clear hk K4
  go_wp2_with fail
  refine (K5.out.set ka (by decide) (by omega) s12).mono ?_
  rintro q w6 ⟨rfl, hk⟩
  have K6 := Lib.hid hk
  clear hk K5
  go_wp2_with fail
  refine (is_true 5 0).mono ?_
  rintro q w60 ⟨rfl, rfl⟩
  go_wp2_with fail
  refine (K6.out.gets ka (by decide) g2a).mono ?_
  rintro q w7 ⟨rfl, hk⟩
  have K7 := Lib.hid hk
  clear hk K6
  go_wp2_with fail
  refine (size_any K7.out.t.pl).mono ?_
  rintro q w61 ⟨rfl, rfl⟩
  rw [len_e2]
  go_wp2_with fail
  refine (K7.out.put kz (by decide) (by decide) (by omega) p23).mono ?_
  rintro q w8 ⟨rfl, hk⟩
  have K8 := Lib.hid hk
  clear hk K7
  go_wp2_with fail
  refine (cells_any K8.out.t.pl).mono ?_
  rintro q wc ⟨X, Y, rfl, ho, hb⟩
  have K9 := Lib.hid (K8.out.below hb)
  obtain ⟨gX, oX, rfl, _, lX⟩ := mine_place ho.ks (by decide)
  obtain ⟨gY, oY, rfl, _, lY⟩ := mine_place ho.ns (by decide)
  have x1 : wc.cell? ⟨gX, oX + 1, none⟩ = some (.string ⟨#[0]⟩) := (mine_cell ho.ks (k := 1) rfl).1
  have x2 : wc.cell? ⟨gX, oX + 2, none⟩ = some (.string ⟨#[97]⟩) := (mine_cell ho.ks (k := 2) rfl).1
  have y1 : wc.cell? ⟨gY, oY + 1, none⟩ = some (.int .i64 9) := (mine_cell ho.ns (k := 1) rfl).1
  have y2 : wc.cell? ⟨gY, oY + 2, none⟩ = some (.int .i64 7) := (mine_cell ho.ns (k := 2) rfl).1
  clear ho hb K8
  rw [len_e3]
  go_wp2_with fail
  refine (sum_any 0 ⟨#[97]⟩ wc (by unfold U64; omega) (by unfold maxLen; decide)).mono ?_
  rintro q wd ⟨rfl, rfl⟩
  rw [show mixI (sumL 0 (⟨#[97]⟩ : ByteArray).data.toList) = 106061912290 from suma]
  go_wp2_with fail
  refine (sum_any 0 ⟨#[0]⟩ wc (by unfold U64; omega) (by unfold maxLen; decide)).mono ?_
  rintro q wd ⟨rfl, rfl⟩
  rw [show mixI (sumL 0 (⟨#[0]⟩ : ByteArray).data.toList) = 1082269761 from sumz]
  clear x1 x2 y1 y2
  go_wp2_with fail
  refine (K9.out.dels ka (by decide) (by decide) d34).mono ?_
  rintro q w10 ⟨rfl, hk⟩
  have K10 := Lib.hid hk
  clear hk K9
  go_wp2_with fail
  refine (K10.out.dels ka (by decide) (by decide) d44).mono ?_
  rintro q w11 ⟨rfl, hk⟩
  have K11 := Lib.hid hk
  clear hk K10
  go_wp2_with fail
  refine (plen_any K11.out.t).mono ?_
  rintro q w62 ⟨rfl, rfl⟩
  rw [show cnt e4 = 1 from rfl]
  go_wp2_with fail
  refine (K11.out.put [] (by decide) (by decide) (by omega) p44a).mono ?_
  rintro q w12 ⟨rfl, hk⟩
  have K12 := Lib.hid hk
  clear hk K11
  go_wp2_with fail
  refine (K12.out.put ka (by decide) (by decide) (by omega) p44b).mono ?_
  rintro q w13 ⟨rfl, hk⟩
  have K13 := Lib.hid hk
  clear hk K12
  go_wp2_with fail
  go_ret
  exact ⟨rfl, K13.out.b⟩
end Go.Proofs.Ythabnffmlgppdaa.Pj
