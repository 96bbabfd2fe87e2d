/- Proves that RecentHolds returns true at every argument. Conditions: as the row gives them. -/
import Derived.Test.YtfoalfemkpiniaaUi
import Derived.Test.YtfoalfemkpiniaaUk
import Derived.Deep.CutBlock
import Derived.BigFrame
namespace Go.Proofs.Ytfoalfemkpiniaa.Um
open Go.RowKit Ap Mi Nw Ua Ub Uc Ue Uf Ug Uh Uk

/-- The order, the map of last uses, apart. -/
structure Ho (N : Nat) (F : Nat → Prop) (w : World) (g b4 n : Nat) (D : DataW Unit) (L : List Int) (i : Int) : Prop where
  rc : Rc F w g L
  mp : Owns w b4 n D
  tr : Tr D L i
  lo : ∀ j, F j → N ≤ j ∧ j ≠ b4
  nb : N ≤ b4
theorem Ho.below {N : Nat} {F : Nat → Prop} {w w' : World} {g b4 n : Nat} {D : DataW Unit} {L : List Int} {i : Int} (h : Ho N F w g b4 n D L i) (hb : Below w.heap.size w w') : Ho N F w' g b4 n D L i :=
  ⟨h.rc.below hb (Nat.le_refl _), h.mp.kept (Only.of_below hb (Nat.le_refl _) (fun _ => False)) (fun hf => hf), h.tr, h.lo, h.nb⟩
theorem Ho.sz {N : Nat} {F : Nat → Prop} {w : World} {g b4 n : Nat} {D : DataW Unit} {L : List Int} {i : Int} (h : Ho N F w g b4 n D L i) : N ≤ w.heap.size := by have := h.mp.lt; have := h.nb; omega
/-- The state between the rounds. -/
def Mid (N : Nat) (W : World) (g b4 m : Nat) (w : World) : Prop := ∃ (n : Nat) (F : Nat → Prop) (D : DataW Unit) (L : List Int), n ≤ m ∧ L.length ≤ m ∧ Ho N F w g b4 n D L (m : Int) ∧ Below N W w
structure Fr (a : Go.Act) (A : Option Addr) (len cap g b4 k : Nat) : Prop where
  df : a.defers = []
  sz : a.tmps.size = 182
  h0 : a.tmps.getD 0 undef = .slice A len cap
  h3 : a.tmps.getD 3 undef = .pointer (some ⟨g, 0, none⟩)
  h4 : a.tmps.getD 4 undef = .map (some b4)
  h25 : a.tmps.getD 25 undef = .slice A len cap
  h26 : a.tmps.getD 26 undef = .int .i64 (len : Int)
  h27 : a.tmps.getD 27 undef = .int .i64 (k : Int)
structure FrA (a : Go.Act) (A : Option Addr) (len cap g b4 k b6 : Nat) (cv : Int) (th : Bool) : Prop where
  fr : Fr a A len cap g b4 k
  h5 : a.tmps.getD 5 undef = .int .i64 (k : Int)
  h6 : a.tmps.getD 6 undef = .pointer (some ⟨b6, 0, none⟩)
  h7 : a.tmps.getD 7 undef = .int .i64 cv
  h8 : a.tmps.getD 8 undef = .bool th
set_option maxRecDepth 1000000 in
theorem arr_eq (t : Array Value) (h : t.size = 182) : t = #[t.getD 0 undef, t.getD 1 undef, t.getD 2 undef, t.getD 3 undef, t.getD 4 undef, t.getD 5 undef, t.getD 6 undef, t.getD 7 undef, t.getD 8 undef, t.getD 9 undef, t.getD 10 undef, t.getD 11 undef, t.getD 12 undef, t.getD 13 undef, t.getD 14 undef, t.getD 15 undef, t.getD 16 undef, t.getD 17 undef, t.getD 18 undef, t.getD 19 undef, t.getD 20 undef, t.getD 21 undef, t.getD 22 undef, t.getD 23 undef, t.getD 24 undef, t.getD 25 undef, t.getD 26 undef, t.getD 27 undef, t.getD 28 undef, t.getD 29 undef, t.getD 30 undef, t.getD 31 undef, t.getD 32 undef, t.getD 33 undef, t.getD 34 undef, t.getD 35 undef, t.getD 36 undef, t.getD 37 undef, t.getD 38 undef, t.getD 39 undef, t.getD 40 undef, t.getD 41 undef, t.getD 42 undef, t.getD 43 undef, t.getD 44 undef, t.getD 45 undef, t.getD 46 undef, t.getD 47 undef, t.getD 48 undef, t.getD 49 undef, t.getD 50 undef, t.getD 51 undef, t.getD 52 undef, t.getD 53 undef, t.getD 54 undef, t.getD 55 undef, t.getD 56 undef, t.getD 57 undef, t.getD 58 undef, t.getD 59 undef, t.getD 60 undef, t.getD 61 undef, t.getD 62 undef, t.getD 63 undef, t.getD 64 undef, t.getD 65 undef, t.getD 66 undef, t.getD 67 undef, t.getD 68 undef, t.getD 69 undef, t.getD 70 undef, t.getD 71 undef, t.getD 72 undef, t.getD 73 undef, t.getD 74 undef, t.getD 75 undef, t.getD 76 undef, t.getD 77 undef, t.getD 78 undef, t.getD 79 undef, t.getD 80 undef, t.getD 81 undef, t.getD 82 undef, t.getD 83 undef, t.getD 84 undef, t.getD 85 undef, t.getD 86 undef, t.getD 87 undef, t.getD 88 undef, t.getD 89 undef, t.getD 90 undef, t.getD 91 undef, t.getD 92 undef, t.getD 93 undef, t.getD 94 undef, t.getD 95 undef, t.getD 96 undef, t.getD 97 undef, t.getD 98 undef, t.getD 99 undef, t.getD 100 undef, t.getD 101 undef, t.getD 102 undef, t.getD 103 undef, t.getD 104 undef, t.getD 105 undef, t.getD 106 undef, t.getD 107 undef, t.getD 108 undef, t.getD 109 undef, t.getD 110 undef, t.getD 111 undef, t.getD 112 undef, t.getD 113 undef, t.getD 114 undef, t.getD 115 undef, t.getD 116 undef, t.getD 117 undef, t.getD 118 undef, t.getD 119 undef, t.getD 120 undef, t.getD 121 undef, t.getD 122 undef, t.getD 123 undef, t.getD 124 undef, t.getD 125 undef, t.getD 126 undef, t.getD 127 undef, t.getD 128 undef, t.getD 129 undef, t.getD 130 undef, t.getD 131 undef, t.getD 132 undef, t.getD 133 undef, t.getD 134 undef, t.getD 135 undef, t.getD 136 undef, t.getD 137 undef, t.getD 138 undef, t.getD 139 undef, t.getD 140 undef, t.getD 141 undef, t.getD 142 undef, t.getD 143 undef, t.getD 144 undef, t.getD 145 undef, t.getD 146 undef, t.getD 147 undef, t.getD 148 undef, t.getD 149 undef, t.getD 150 undef, t.getD 151 undef, t.getD 152 undef, t.getD 153 undef, t.getD 154 undef, t.getD 155 undef, t.getD 156 undef, t.getD 157 undef, t.getD 158 undef, t.getD 159 undef, t.getD 160 undef, t.getD 161 undef, t.getD 162 undef, t.getD 163 undef, t.getD 164 undef, t.getD 165 undef, t.getD 166 undef, t.getD 167 undef, t.getD 168 undef, t.getD 169 undef, t.getD 170 undef, t.getD 171 undef, t.getD 172 undef, t.getD 173 undef, t.getD 174 undef, t.getD 175 undef, t.getD 176 undef, t.getD 177 undef, t.getD 178 undef, t.getD 179 undef, t.getD 180 undef, t.getD 181 undef] := by
  have e : #[t.getD 0 undef, t.getD 1 undef, t.getD 2 undef, t.getD 3 undef, t.getD 4 undef, t.getD 5 undef, t.getD 6 undef, t.getD 7 undef, t.getD 8 undef, t.getD 9 undef, t.getD 10 undef, t.getD 11 undef, t.getD 12 undef, t.getD 13 undef, t.getD 14 undef, t.getD 15 undef, t.getD 16 undef, t.getD 17 undef, t.getD 18 undef, t.getD 19 undef, t.getD 20 undef, t.getD 21 undef, t.getD 22 undef, t.getD 23 undef, t.getD 24 undef, t.getD 25 undef, t.getD 26 undef, t.getD 27 undef, t.getD 28 undef, t.getD 29 undef, t.getD 30 undef, t.getD 31 undef, t.getD 32 undef, t.getD 33 undef, t.getD 34 undef, t.getD 35 undef, t.getD 36 undef, t.getD 37 undef, t.getD 38 undef, t.getD 39 undef, t.getD 40 undef, t.getD 41 undef, t.getD 42 undef, t.getD 43 undef, t.getD 44 undef, t.getD 45 undef, t.getD 46 undef, t.getD 47 undef, t.getD 48 undef, t.getD 49 undef, t.getD 50 undef, t.getD 51 undef, t.getD 52 undef, t.getD 53 undef, t.getD 54 undef, t.getD 55 undef, t.getD 56 undef, t.getD 57 undef, t.getD 58 undef, t.getD 59 undef, t.getD 60 undef, t.getD 61 undef, t.getD 62 undef, t.getD 63 undef, t.getD 64 undef, t.getD 65 undef, t.getD 66 undef, t.getD 67 undef, t.getD 68 undef, t.getD 69 undef, t.getD 70 undef, t.getD 71 undef, t.getD 72 undef, t.getD 73 undef, t.getD 74 undef, t.getD 75 undef, t.getD 76 undef, t.getD 77 undef, t.getD 78 undef, t.getD 79 undef, t.getD 80 undef, t.getD 81 undef, t.getD 82 undef, t.getD 83 undef, t.getD 84 undef, t.getD 85 undef, t.getD 86 undef, t.getD 87 undef, t.getD 88 undef, t.getD 89 undef, t.getD 90 undef, t.getD 91 undef, t.getD 92 undef, t.getD 93 undef, t.getD 94 undef, t.getD 95 undef, t.getD 96 undef, t.getD 97 undef, t.getD 98 undef, t.getD 99 undef, t.getD 100 undef, t.getD 101 undef, t.getD 102 undef, t.getD 103 undef, t.getD 104 undef, t.getD 105 undef, t.getD 106 undef, t.getD 107 undef, t.getD 108 undef, t.getD 109 undef, t.getD 110 undef, t.getD 111 undef, t.getD 112 undef, t.getD 113 undef, t.getD 114 undef, t.getD 115 undef, t.getD 116 undef, t.getD 117 undef, t.getD 118 undef, t.getD 119 undef, t.getD 120 undef, t.getD 121 undef, t.getD 122 undef, t.getD 123 undef, t.getD 124 undef, t.getD 125 undef, t.getD 126 undef, t.getD 127 undef, t.getD 128 undef, t.getD 129 undef, t.getD 130 undef, t.getD 131 undef, t.getD 132 undef, t.getD 133 undef, t.getD 134 undef, t.getD 135 undef, t.getD 136 undef, t.getD 137 undef, t.getD 138 undef, t.getD 139 undef, t.getD 140 undef, t.getD 141 undef, t.getD 142 undef, t.getD 143 undef, t.getD 144 undef, t.getD 145 undef, t.getD 146 undef, t.getD 147 undef, t.getD 148 undef, t.getD 149 undef, t.getD 150 undef, t.getD 151 undef, t.getD 152 undef, t.getD 153 undef, t.getD 154 undef, t.getD 155 undef, t.getD 156 undef, t.getD 157 undef, t.getD 158 undef, t.getD 159 undef, t.getD 160 undef, t.getD 161 undef, t.getD 162 undef, t.getD 163 undef, t.getD 164 undef, t.getD 165 undef, t.getD 166 undef, t.getD 167 undef, t.getD 168 undef, t.getD 169 undef, t.getD 170 undef, t.getD 171 undef, t.getD 172 undef, t.getD 173 undef, t.getD 174 undef, t.getD 175 undef, t.getD 176 undef, t.getD 177 undef, t.getD 178 undef, t.getD 179 undef, t.getD 180 undef, t.getD 181 undef].toList = (List.range 182).map (fun i => t.getD i undef) := rfl
  refine Array.toList_inj.1 ?_
  rw [e]
  refine List.ext_getElem (by simp [h]) (fun i h1 h2 => ?_)
  have hi : i < t.size := by simpa using h1
  simp [Array.getD, hi]
set_option maxRecDepth 1000000 in
theorem Fr.opened {a : Go.Act} {A : Option Addr} {len cap g b4 k : Nat} (h : Fr a A len cap g b4 k) : ∃ f : Nat → Value, a = ⟨#[.slice A len cap, f 1, f 2, .pointer (some ⟨g, 0, none⟩), .map (some b4), f 5, f 6, f 7, f 8, f 9, f 10, f 11, f 12, f 13, f 14, f 15, f 16, f 17, f 18, f 19, f 20, f 21, f 22, f 23, f 24, .slice A len cap, .int .i64 (len : Int), .int .i64 (k : Int), f 28, f 29, f 30, f 31, f 32, f 33, f 34, f 35, f 36, f 37, f 38, f 39, f 40, f 41, f 42, f 43, f 44, f 45, f 46, f 47, f 48, f 49, f 50, f 51, f 52, f 53, f 54, f 55, f 56, f 57, f 58, f 59, f 60, f 61, f 62, f 63, f 64, f 65, f 66, f 67, f 68, f 69, f 70, f 71, f 72, f 73, f 74, f 75, f 76, f 77, f 78, f 79, f 80, f 81, f 82, f 83, f 84, f 85, f 86, f 87, f 88, f 89, f 90, f 91, f 92, f 93, f 94, f 95, f 96, f 97, f 98, f 99, f 100, f 101, f 102, f 103, f 104, f 105, f 106, f 107, f 108, f 109, f 110, f 111, f 112, f 113, f 114, f 115, f 116, f 117, f 118, f 119, f 120, f 121, f 122, f 123, f 124, f 125, f 126, f 127, f 128, f 129, f 130, f 131, f 132, f 133, f 134, f 135, f 136, f 137, f 138, f 139, f 140, f 141, f 142, f 143, f 144, f 145, f 146, f 147, f 148, f 149, f 150, f 151, f 152, f 153, f 154, f 155, f 156, f 157, f 158, f 159, f 160, f 161, f 162, f 163, f 164, f 165, f 166, f 167, f 168, f 169, f 170, f 171, f 172, f 173, f 174, f 175, f 176, f 177, f 178, f 179, f 180, f 181], []⟩ := by
  refine ⟨fun i => a.tmps.getD i undef, ?_⟩
  have e := arr_eq a.tmps h.sz
  rw [h.h0, h.h3, h.h4, h.h25, h.h26, h.h27] at e
  show (⟨a.tmps, a.defers⟩ : Go.Act) = ⟨_, []⟩
  rw [h.df]
  exact congrArg (fun t => (⟨t, []⟩ : Go.Act)) e
set_option maxRecDepth 1000000 in
theorem FrA.opened {a : Go.Act} {A : Option Addr} {len cap g b4 k b6 : Nat} {cv : Int} {th : Bool} (h : FrA a A len cap g b4 k b6 cv th) : ∃ f : Nat → Value, a = ⟨#[.slice A len cap, f 1, f 2, .pointer (some ⟨g, 0, none⟩), .map (some b4), .int .i64 (k : Int), .pointer (some ⟨b6, 0, none⟩), .int .i64 cv, .bool th, f 9, f 10, f 11, f 12, f 13, f 14, f 15, f 16, f 17, f 18, f 19, f 20, f 21, f 22, f 23, f 24, .slice A len cap, .int .i64 (len : Int), .int .i64 (k : Int), f 28, f 29, f 30, f 31, f 32, f 33, f 34, f 35, f 36, f 37, f 38, f 39, f 40, f 41, f 42, f 43, f 44, f 45, f 46, f 47, f 48, f 49, f 50, f 51, f 52, f 53, f 54, f 55, f 56, f 57, f 58, f 59, f 60, f 61, f 62, f 63, f 64, f 65, f 66, f 67, f 68, f 69, f 70, f 71, f 72, f 73, f 74, f 75, f 76, f 77, f 78, f 79, f 80, f 81, f 82, f 83, f 84, f 85, f 86, f 87, f 88, f 89, f 90, f 91, f 92, f 93, f 94, f 95, f 96, f 97, f 98, f 99, f 100, f 101, f 102, f 103, f 104, f 105, f 106, f 107, f 108, f 109, f 110, f 111, f 112, f 113, f 114, f 115, f 116, f 117, f 118, f 119, f 120, f 121, f 122, f 123, f 124, f 125, f 126, f 127, f 128, f 129, f 130, f 131, f 132, f 133, f 134, f 135, f 136, f 137, f 138, f 139, f 140, f 141, f 142, f 143, f 144, f 145, f 146, f 147, f 148, f 149, f 150, f 151, f 152, f 153, f 154, f 155, f 156, f 157, f 158, f 159, f 160, f 161, f 162, f 163, f 164, f 165, f 166, f 167, f 168, f 169, f 170, f 171, f 172, f 173, f 174, f 175, f 176, f 177, f 178, f 179, f 180, f 181], []⟩ := by
  refine ⟨fun i => a.tmps.getD i undef, ?_⟩
  have e := arr_eq a.tmps h.fr.sz
  rw [h.fr.h0, h.fr.h3, h.fr.h4, h.fr.h25, h.fr.h26, h.fr.h27, h.h5, h.h6, h.h7, h.h8] at e
  show (⟨a.tmps, a.defers⟩ : Go.Act) = ⟨_, []⟩
  rw [h.fr.df]
  exact congrArg (fun t => (⟨t, []⟩ : Go.Act)) e
def findB (n : Nat) : Code → Option Code
  | .block i c => if i = n then some c else findB n c
  | .seq x y => match findB n x with
    | some c => some c
    | none => findB n y
  | .loop c => findB n c
  | .scope c => findB n c
  | .cond _ x y => match findB n x with
    | some c => some c
    | none => findB n y
  | _ => none
def fstC : Code → Code
  | .seq x _ => x
  | c => c
def sndC : Code → Code
  | .seq _ y => y
  | c => c
noncomputable def blk1 : Code := (Try.f7.body.bind (findB 1)).getD .skip
noncomputable def r9 : Code := fstC blk1
noncomputable def r10 : Code := fstC (sndC blk1)
noncomputable def sw : Code := fstC (sndC (sndC blk1))
noncomputable def tail : Code := sndC (sndC (sndC blk1))
set_option maxRecDepth 1000000 in
theorem blk_eq : blk1 = Code.seq r9 (Code.seq r10 (Code.seq sw tail)) := by rfl
/-- The order moves on to another list, the map is stored to. -/
theorem Ho.stored {N : Nat} {F : Nat → Prop} {w w' : World} {g b4 n n' : Nat} {D D' : DataW Unit} {L L' : List Int} {i i' : Int} (h : Ho N F w g b4 n D L i) (hr : Rc (More F w) w' g L') {w2 : World} (hm : Owns w2 b4 n' D') (h2 : Only (fun j => j = b4) w' w2) (ht : Tr D' L' i') : Ho N (More F w) w2 g b4 n' D' L' i' := by
  have hl := h.mp.lt; have hs := h.sz
  have lo : ∀ j, More F w j → N ≤ j ∧ j ≠ b4 := fun j hj => by
    rcases hj with hj | hj
    · exact h.lo j hj
    · exact ⟨by omega, by omega⟩
  exact ⟨hr.only h2 (fun j hj e => (lo j hj).2 e), hm, ht, lo, h.nb⟩
set_option maxRecDepth 1000000 in
set_option maxHeartbeats 16000000 in
theorem sw0 {N : Nat} {W : World} {f : Nat → Value} {A : Option Addr} {len cap g b4 k b6 : Nat} {cv : Int} {th : Bool} {wc : World} {K : Go.Act → World → Prop} {Q : Exit → Go.Act → World → Prop} {n : Nat} {F : Nat → Prop} {D : DataW Unit} {L : List Int} {xa xn : Int}
    (hk1 : k < 200) (hnk : n ≤ k) (hLk : L.length ≤ k) (HH : Hid (Ho N F wc g b4 n D L (k : Int))) (BL : Hid (Below N W wc)) (P6 : Hid (Blk wc b6 #[.int .i64 xa, .int .i64 xn] 28)) (NF : Hid (¬ F b6)) (HXN : Hid (In xn)) (HTH : Hid (th = decide (xn ∈ L)))
    (HK : Hid (∀ a' w', Fr a' A len cap g b4 k → Mid N W g b4 (k + 1) w' → K a' w')) (q : xa = 0) :
    Code.wp Try.prog sw (Exit.then K Q) ⟨#[.slice A len cap, f 1, f 2, .pointer (some ⟨g, 0, none⟩), .map (some b4), .int .i64 (k : Int), .pointer (some ⟨b6, 0, none⟩), .int .i64 cv, .bool th, f 9, f 10, f 11, f 12, f 13, f 14, f 15, f 16, f 17, f 18, f 19, f 20, f 21, f 22, f 23, f 24, .slice A len cap, .int .i64 (len : Int), .int .i64 (k : Int), f 28, f 29, f 30, f 31, f 32, f 33, f 34, f 35, f 36, f 37, f 38, f 39, f 40, f 41, f 42, f 43, f 44, f 45, f 46, f 47, f 48, f 49, f 50, f 51, f 52, f 53, f 54, f 55, f 56, f 57, f 58, f 59, f 60, f 61, f 62, f 63, f 64, f 65, f 66, f 67, f 68, f 69, f 70, f 71, f 72, f 73, f 74, f 75, f 76, f 77, f 78, f 79, f 80, f 81, f 82, f 83, f 84, f 85, f 86, f 87, f 88, f 89, f 90, f 91, f 92, f 93, f 94, f 95, f 96, f 97, f 98, f 99, f 100, f 101, f 102, f 103, f 104, f 105, f 106, f 107, f 108, f 109, f 110, f 111, f 112, f 113, f 114, f 115, f 116, f 117, f 118, f 119, f 120, f 121, f 122, f 123, f 124, f 125, f 126, f 127, f 128, f 129, f 130, f 131, f 132, f 133, f 134, f 135, f 136, f 137, f 138, f 139, f 140, f 141, f 142, f 143, f 144, f 145, f 146, f 147, f 148, f 149, f 150, f 151, f 152, f 153, f 154, f 155, f 156, f 157, f 158, f 159, f 160, f 161, f 162, f 163, f 164, f 165, f 166, f 167, f 168, f 169, f 170, f 171, f 172, f 173, f 174, f 175, f 176, f 177, f 178, f 179, f 180, f 181], []⟩ wc := by
  subst q
  have hz := HH.out.sz
  have l4 := HH.out.mp.lt
  have hci : In (k : Int) := ⟨by omega, by omega⟩
  have NB : Hid (N ≤ b4) := HH.out.nb
  obtain ⟨y0, y1, _⟩ := P6.out.two
  have CR := Lib.hid (Ue.add_any HH.out.rc xn)
  unfold wrPost at CR
  have hth := HTH.out
  conv => arg 2; whnf
  by_cases hm : xn ∈ L
  · simp only [hm, decide_true] at hth
    subst hth
    have hsl := HH.out.rc.sl xn hm
    rw [show addN L xn = 11 from by unfold addN; rw [if_neg (by simpa using hsl), if_pos hm], show addT L xn = L from if_neg (fun h => h.2 hm)] at CR
    clear hsl hm
    go_wp2_with fail
    refine CR.out.mono ?_
    rintro r w1 ⟨rfl, hr, ho⟩
    have HR := Lib.hid hr
    have M1 := Lib.hid (HH.out.mp.kept ho (fun hf => (HH.out.lo _ hf).2 rfl))
    have P61 := Lib.hid (P6.out.only ho NF.out)
    have BL1 := Lib.hid (BL.out.trans (ho.below (fun j hj => (HH.out.lo j hj).1) hz))
    have hz1 := ho.size
    clear hr ho CR y0 y1
    obtain ⟨y0, y1, _⟩ := P61.out.two
    go_wp2_with fail
    exact HK.out _ _ ⟨rfl, rfl, rfl, rfl, rfl, rfl, rfl, rfl⟩ ⟨n, _, D, L, by omega, by omega, HH.out.stored HR.out M1.out (Only.refl _ _) (HH.out.tr.next (by omega)), BL1.out⟩
  · simp only [hm, decide_false] at hth
    subst hth
    by_cases hsl : Sl xn
    · rw [show addN L xn = 0 from by unfold addN; rw [if_neg (by simpa using hsl), if_neg hm], show addT L xn = wo L xn ++ [xn] from by rw [wo_none hm]; exact if_pos ⟨hsl, hm⟩] at CR
      clear hsl hm
      go_wp2_with fail
      refine CR.out.mono ?_
      rintro r w1 ⟨rfl, hr, ho⟩
      have HR := Lib.hid hr
      have M1 := Lib.hid (HH.out.mp.kept ho (fun hf => (HH.out.lo _ hf).2 rfl))
      have P61 := Lib.hid (P6.out.only ho NF.out)
      have BL1 := Lib.hid (BL.out.trans (ho.below (fun j hj => (HH.out.lo j hj).1) hz))
      have hz1 := ho.size
      clear hr ho CR y0 y1
      obtain ⟨y0, y1, _⟩ := P61.out.two
      go_wp2_with (at_mapUpdate; refine at_store _ rfl _ _ _ rfl b4 n D rfl M1.out (by omega) xn HXN.out rfl (k : Int) hci rfl ?_; intro w9 hw9 ho9)
      have TP := Lib.hid (HH.out.tr.put (by omega) xn)
      have M9 := Lib.hid hw9; have O9 := Lib.hid ho9
      have BL9 : Hid (Below N W w9) := BL1.out.trans (ho9.below (fun j e => by have := NB.out; omega) (by omega))
      have LE : Hid ((wo L xn ++ [xn]).length ≤ L.length + 1) := by show _ ≤ _; have := wo_le L xn; simp; omega
      clear hw9 ho9
      try go_wp2_with fail
      exact HK.out _ _ ⟨rfl, rfl, rfl, rfl, rfl, rfl, rfl, rfl⟩ ⟨n + 1, _, _, wo L xn ++ [xn], by omega, by have := LE.out; omega, HH.out.stored HR.out M9.out O9.out TP.out, BL9.out⟩
    · rw [show addN L xn = 2 from if_pos hsl, show addT L xn = L from if_neg (fun h => hsl h.1)] at CR
      clear hsl hm
      go_wp2_with fail
      refine CR.out.mono ?_
      rintro r w1 ⟨rfl, hr, ho⟩
      have HR := Lib.hid hr
      have M1 := Lib.hid (HH.out.mp.kept ho (fun hf => (HH.out.lo _ hf).2 rfl))
      have P61 := Lib.hid (P6.out.only ho NF.out)
      have BL1 := Lib.hid (BL.out.trans (ho.below (fun j hj => (HH.out.lo j hj).1) hz))
      have hz1 := ho.size
      clear hr ho CR y0 y1
      obtain ⟨y0, y1, _⟩ := P61.out.two
      go_wp2_with fail
      exact HK.out _ _ ⟨rfl, rfl, rfl, rfl, rfl, rfl, rfl, rfl⟩ ⟨n, _, D, L, by omega, by omega, HH.out.stored HR.out M1.out (Only.refl _ _) (HH.out.tr.next (by omega)), BL1.out⟩
set_option maxRecDepth 1000000 in
set_option maxHeartbeats 16000000 in
theorem sw1 {N : Nat} {W : World} {f : Nat → Value} {A : Option Addr} {len cap g b4 k b6 : Nat} {cv : Int} {th : Bool} {wc : World} {K : Go.Act → World → Prop} {Q : Exit → Go.Act → World → Prop} {n : Nat} {F : Nat → Prop} {D : DataW Unit} {L : List Int} {xa xn : Int}
    (hk1 : k < 200) (hnk : n ≤ k) (hLk : L.length ≤ k) (HH : Hid (Ho N F wc g b4 n D L (k : Int))) (BL : Hid (Below N W wc)) (P6 : Hid (Blk wc b6 #[.int .i64 xa, .int .i64 xn] 28)) (NF : Hid (¬ F b6)) (HXN : Hid (In xn)) (HTH : Hid (th = decide (xn ∈ L)))
    (HK : Hid (∀ a' w', Fr a' A len cap g b4 k → Mid N W g b4 (k + 1) w' → K a' w')) (q : xa = 1) :
    Code.wp Try.prog sw (Exit.then K Q) ⟨#[.slice A len cap, f 1, f 2, .pointer (some ⟨g, 0, none⟩), .map (some b4), .int .i64 (k : Int), .pointer (some ⟨b6, 0, none⟩), .int .i64 cv, .bool th, f 9, f 10, f 11, f 12, f 13, f 14, f 15, f 16, f 17, f 18, f 19, f 20, f 21, f 22, f 23, f 24, .slice A len cap, .int .i64 (len : Int), .int .i64 (k : Int), f 28, f 29, f 30, f 31, f 32, f 33, f 34, f 35, f 36, f 37, f 38, f 39, f 40, f 41, f 42, f 43, f 44, f 45, f 46, f 47, f 48, f 49, f 50, f 51, f 52, f 53, f 54, f 55, f 56, f 57, f 58, f 59, f 60, f 61, f 62, f 63, f 64, f 65, f 66, f 67, f 68, f 69, f 70, f 71, f 72, f 73, f 74, f 75, f 76, f 77, f 78, f 79, f 80, f 81, f 82, f 83, f 84, f 85, f 86, f 87, f 88, f 89, f 90, f 91, f 92, f 93, f 94, f 95, f 96, f 97, f 98, f 99, f 100, f 101, f 102, f 103, f 104, f 105, f 106, f 107, f 108, f 109, f 110, f 111, f 112, f 113, f 114, f 115, f 116, f 117, f 118, f 119, f 120, f 121, f 122, f 123, f 124, f 125, f 126, f 127, f 128, f 129, f 130, f 131, f 132, f 133, f 134, f 135, f 136, f 137, f 138, f 139, f 140, f 141, f 142, f 143, f 144, f 145, f 146, f 147, f 148, f 149, f 150, f 151, f 152, f 153, f 154, f 155, f 156, f 157, f 158, f 159, f 160, f 161, f 162, f 163, f 164, f 165, f 166, f 167, f 168, f 169, f 170, f 171, f 172, f 173, f 174, f 175, f 176, f 177, f 178, f 179, f 180, f 181], []⟩ wc := by
  subst q
  have hz := HH.out.sz
  have l4 := HH.out.mp.lt
  have hci : In (k : Int) := ⟨by omega, by omega⟩
  have NB : Hid (N ≤ b4) := HH.out.nb
  obtain ⟨y0, y1, _⟩ := P6.out.two
  have CR := Lib.hid (Ue.use_any HH.out.rc xn)
  unfold wrPost at CR
  have hth := HTH.out
  conv => arg 2; whnf
  by_cases hm : xn ∈ L
  · simp only [hm, decide_true] at hth
    subst hth
    have hsl := HH.out.rc.sl xn hm
    rw [show remN L xn = 0 from by unfold remN; rw [if_neg (by simpa using hsl), if_pos hm], show useT L xn = wo L xn ++ [xn] from if_pos ⟨hsl, hm⟩] at CR
    clear hsl hm
    go_wp2_with fail
    refine CR.out.mono ?_
    rintro r w1 ⟨rfl, hr, ho⟩
    have HR := Lib.hid hr
    have M1 := Lib.hid (HH.out.mp.kept ho (fun hf => (HH.out.lo _ hf).2 rfl))
    have P61 := Lib.hid (P6.out.only ho NF.out)
    have BL1 := Lib.hid (BL.out.trans (ho.below (fun j hj => (HH.out.lo j hj).1) hz))
    have hz1 := ho.size
    clear hr ho CR y0 y1
    obtain ⟨y0, y1, _⟩ := P61.out.two
    go_wp2_with (at_mapUpdate; refine at_store _ rfl _ _ _ rfl b4 n D rfl M1.out (by omega) xn HXN.out rfl (k : Int) hci rfl ?_; intro w9 hw9 ho9)
    have TP := Lib.hid (HH.out.tr.put (by omega) xn)
    have M9 := Lib.hid hw9; have O9 := Lib.hid ho9
    have BL9 : Hid (Below N W w9) := BL1.out.trans (ho9.below (fun j e => by have := NB.out; omega) (by omega))
    have LE : Hid ((wo L xn ++ [xn]).length ≤ L.length + 1) := by show _ ≤ _; have := wo_le L xn; simp; omega
    clear hw9 ho9
    try go_wp2_with fail
    exact HK.out _ _ ⟨rfl, rfl, rfl, rfl, rfl, rfl, rfl, rfl⟩ ⟨n + 1, _, _, wo L xn ++ [xn], by omega, by have := LE.out; omega, HH.out.stored HR.out M9.out O9.out TP.out, BL9.out⟩
  · simp only [hm, decide_false] at hth
    subst hth
    rw [show useT L xn = L from if_neg (fun h => hm h.2)] at CR
    have hrn : (remN L xn == 0) = false := by unfold remN; rw [if_neg hm]; split <;> rfl
    obtain ⟨e0, he0⟩ : ∃ e0, e0 = remN L xn := ⟨_, rfl⟩
    rw [← he0] at CR hrn
    clear he0
    clear hm
    go_wp2_with fail
    refine CR.out.mono ?_
    rintro r w1 ⟨rfl, hr, ho⟩
    have HR := Lib.hid hr
    have M1 := Lib.hid (HH.out.mp.kept ho (fun hf => (HH.out.lo _ hf).2 rfl))
    have P61 := Lib.hid (P6.out.only ho NF.out)
    have BL1 := Lib.hid (BL.out.trans (ho.below (fun j hj => (HH.out.lo j hj).1) hz))
    have hz1 := ho.size
    clear hr ho CR y0 y1
    obtain ⟨y0, y1, _⟩ := P61.out.two
    go_wp2_with fail
    exact HK.out _ _ ⟨rfl, rfl, rfl, rfl, rfl, rfl, rfl, rfl⟩ ⟨n, _, D, L, by omega, by omega, HH.out.stored HR.out M1.out (Only.refl _ _) (HH.out.tr.next (by omega)), BL1.out⟩
set_option maxRecDepth 1000000 in
set_option maxHeartbeats 16000000 in
theorem sw2 {N : Nat} {W : World} {f : Nat → Value} {A : Option Addr} {len cap g b4 k b6 : Nat} {cv : Int} {th : Bool} {wc : World} {K : Go.Act → World → Prop} {Q : Exit → Go.Act → World → Prop} {n : Nat} {F : Nat → Prop} {D : DataW Unit} {L : List Int} {xa xn : Int}
    (hk1 : k < 200) (hnk : n ≤ k) (hLk : L.length ≤ k) (HH : Hid (Ho N F wc g b4 n D L (k : Int))) (BL : Hid (Below N W wc)) (P6 : Hid (Blk wc b6 #[.int .i64 xa, .int .i64 xn] 28)) (NF : Hid (¬ F b6)) (HXN : Hid (In xn)) (HTH : Hid (th = decide (xn ∈ L)))
    (HK : Hid (∀ a' w', Fr a' A len cap g b4 k → Mid N W g b4 (k + 1) w' → K a' w')) (q : xa = 2) :
    Code.wp Try.prog sw (Exit.then K Q) ⟨#[.slice A len cap, f 1, f 2, .pointer (some ⟨g, 0, none⟩), .map (some b4), .int .i64 (k : Int), .pointer (some ⟨b6, 0, none⟩), .int .i64 cv, .bool th, f 9, f 10, f 11, f 12, f 13, f 14, f 15, f 16, f 17, f 18, f 19, f 20, f 21, f 22, f 23, f 24, .slice A len cap, .int .i64 (len : Int), .int .i64 (k : Int), f 28, f 29, f 30, f 31, f 32, f 33, f 34, f 35, f 36, f 37, f 38, f 39, f 40, f 41, f 42, f 43, f 44, f 45, f 46, f 47, f 48, f 49, f 50, f 51, f 52, f 53, f 54, f 55, f 56, f 57, f 58, f 59, f 60, f 61, f 62, f 63, f 64, f 65, f 66, f 67, f 68, f 69, f 70, f 71, f 72, f 73, f 74, f 75, f 76, f 77, f 78, f 79, f 80, f 81, f 82, f 83, f 84, f 85, f 86, f 87, f 88, f 89, f 90, f 91, f 92, f 93, f 94, f 95, f 96, f 97, f 98, f 99, f 100, f 101, f 102, f 103, f 104, f 105, f 106, f 107, f 108, f 109, f 110, f 111, f 112, f 113, f 114, f 115, f 116, f 117, f 118, f 119, f 120, f 121, f 122, f 123, f 124, f 125, f 126, f 127, f 128, f 129, f 130, f 131, f 132, f 133, f 134, f 135, f 136, f 137, f 138, f 139, f 140, f 141, f 142, f 143, f 144, f 145, f 146, f 147, f 148, f 149, f 150, f 151, f 152, f 153, f 154, f 155, f 156, f 157, f 158, f 159, f 160, f 161, f 162, f 163, f 164, f 165, f 166, f 167, f 168, f 169, f 170, f 171, f 172, f 173, f 174, f 175, f 176, f 177, f 178, f 179, f 180, f 181], []⟩ wc := by
  subst q
  have hz := HH.out.sz
  have l4 := HH.out.mp.lt
  have hci : In (k : Int) := ⟨by omega, by omega⟩
  have NB : Hid (N ≤ b4) := HH.out.nb
  obtain ⟨y0, y1, _⟩ := P6.out.two
  have CR := Lib.hid (Ue.remove_any HH.out.rc xn)
  unfold wrPost at CR
  have hth := HTH.out
  conv => arg 2; whnf
  by_cases hm : xn ∈ L
  · simp only [hm, decide_true] at hth
    subst hth
    have hsl := HH.out.rc.sl xn hm
    rw [show remN L xn = 0 from by unfold remN; rw [if_neg (by simpa using hsl), if_pos hm], show remT L xn = wo L xn from if_pos ⟨hsl, hm⟩] at CR
    clear hsl hm
    go_wp2_with fail
    refine CR.out.mono ?_
    rintro r w1 ⟨rfl, hr, ho⟩
    have HR := Lib.hid hr
    have M1 := Lib.hid (HH.out.mp.kept ho (fun hf => (HH.out.lo _ hf).2 rfl))
    have P61 := Lib.hid (P6.out.only ho NF.out)
    have BL1 := Lib.hid (BL.out.trans (ho.below (fun j hj => (HH.out.lo j hj).1) hz))
    have hz1 := ho.size
    clear hr ho CR y0 y1
    obtain ⟨y0, y1, _⟩ := P61.out.two
    go_wp2_with (at_delete; refine at_del _ rfl _ _ rfl b4 n D rfl M1.out xn HXN.out rfl ?_; intro w9 hw9 ho9)
    have TP := Lib.hid ((HH.out.tr.del xn).next (show (k : Int) ≤ ((k + 1 : Nat) : Int) by omega))
    have M9 := Lib.hid hw9; have O9 := Lib.hid ho9
    have BL9 : Hid (Below N W w9) := BL1.out.trans (ho9.below (fun j e => by have := NB.out; omega) (by omega))
    have LE := Lib.hid (wo_le L xn)
    clear hw9 ho9
    try go_wp2_with fail
    exact HK.out _ _ ⟨rfl, rfl, rfl, rfl, rfl, rfl, rfl, rfl⟩ ⟨n, _, _, wo L xn, by omega, by have := LE.out; omega, HH.out.stored HR.out M9.out O9.out TP.out, BL9.out⟩
  · simp only [hm, decide_false] at hth
    subst hth
    rw [show remT L xn = wo L xn from by rw [wo_none hm]; exact if_neg (fun h => hm h.2)] at CR
    have hrn : (remN L xn == 0) = false := by unfold remN; rw [if_neg hm]; split <;> rfl
    obtain ⟨e0, he0⟩ : ∃ e0, e0 = remN L xn := ⟨_, rfl⟩
    rw [← he0] at CR hrn
    clear he0
    clear hm
    go_wp2_with fail
    refine CR.out.mono ?_
    rintro r w1 ⟨rfl, hr, ho⟩
    have HR := Lib.hid hr
    have M1 := Lib.hid (HH.out.mp.kept ho (fun hf => (HH.out.lo _ hf).2 rfl))
    have P61 := Lib.hid (P6.out.only ho NF.out)
    have BL1 := Lib.hid (BL.out.trans (ho.below (fun j hj => (HH.out.lo j hj).1) hz))
    have hz1 := ho.size
    clear hr ho CR y0 y1
    obtain ⟨y0, y1, _⟩ := P61.out.two
    go_wp2_with (at_delete; refine at_del _ rfl _ _ rfl b4 n D rfl M1.out xn HXN.out rfl ?_; intro w9 hw9 ho9)
    have TP := Lib.hid ((HH.out.tr.del xn).next (show (k : Int) ≤ ((k + 1 : Nat) : Int) by omega))
    have M9 := Lib.hid hw9; have O9 := Lib.hid ho9
    have BL9 : Hid (Below N W w9) := BL1.out.trans (ho9.below (fun j e => by have := NB.out; omega) (by omega))
    have LE := Lib.hid (wo_le L xn)
    clear hw9 ho9
    try go_wp2_with fail
    exact HK.out _ _ ⟨rfl, rfl, rfl, rfl, rfl, rfl, rfl, rfl⟩ ⟨n, _, _, wo L xn, by omega, by have := LE.out; omega, HH.out.stored HR.out M9.out O9.out TP.out, BL9.out⟩
set_option maxRecDepth 1000000 in
set_option maxHeartbeats 16000000 in
theorem sw9 {N : Nat} {W : World} {f : Nat → Value} {A : Option Addr} {len cap g b4 k b6 : Nat} {cv : Int} {th : Bool} {wc : World} {K : Go.Act → World → Prop} {Q : Exit → Go.Act → World → Prop} {n : Nat} {F : Nat → Prop} {D : DataW Unit} {L : List Int} {xa xn : Int}
    (hk1 : k < 200) (hnk : n ≤ k) (hLk : L.length ≤ k) (HH : Hid (Ho N F wc g b4 n D L (k : Int))) (BL : Hid (Below N W wc)) (P6 : Hid (Blk wc b6 #[.int .i64 xa, .int .i64 xn] 28)) (NF : Hid (¬ F b6)) (HXN : Hid (In xn)) (HTH : Hid (th = decide (xn ∈ L)))
    (HK : Hid (∀ a' w', Fr a' A len cap g b4 k → Mid N W g b4 (k + 1) w' → K a' w')) (q0 : xa ≠ 0) (q1 : xa ≠ 1) (q2 : xa ≠ 2) :
    Code.wp Try.prog sw (Exit.then K Q) ⟨#[.slice A len cap, f 1, f 2, .pointer (some ⟨g, 0, none⟩), .map (some b4), .int .i64 (k : Int), .pointer (some ⟨b6, 0, none⟩), .int .i64 cv, .bool th, f 9, f 10, f 11, f 12, f 13, f 14, f 15, f 16, f 17, f 18, f 19, f 20, f 21, f 22, f 23, f 24, .slice A len cap, .int .i64 (len : Int), .int .i64 (k : Int), f 28, f 29, f 30, f 31, f 32, f 33, f 34, f 35, f 36, f 37, f 38, f 39, f 40, f 41, f 42, f 43, f 44, f 45, f 46, f 47, f 48, f 49, f 50, f 51, f 52, f 53, f 54, f 55, f 56, f 57, f 58, f 59, f 60, f 61, f 62, f 63, f 64, f 65, f 66, f 67, f 68, f 69, f 70, f 71, f 72, f 73, f 74, f 75, f 76, f 77, f 78, f 79, f 80, f 81, f 82, f 83, f 84, f 85, f 86, f 87, f 88, f 89, f 90, f 91, f 92, f 93, f 94, f 95, f 96, f 97, f 98, f 99, f 100, f 101, f 102, f 103, f 104, f 105, f 106, f 107, f 108, f 109, f 110, f 111, f 112, f 113, f 114, f 115, f 116, f 117, f 118, f 119, f 120, f 121, f 122, f 123, f 124, f 125, f 126, f 127, f 128, f 129, f 130, f 131, f 132, f 133, f 134, f 135, f 136, f 137, f 138, f 139, f 140, f 141, f 142, f 143, f 144, f 145, f 146, f 147, f 148, f 149, f 150, f 151, f 152, f 153, f 154, f 155, f 156, f 157, f 158, f 159, f 160, f 161, f 162, f 163, f 164, f 165, f 166, f 167, f 168, f 169, f 170, f 171, f 172, f 173, f 174, f 175, f 176, f 177, f 178, f 179, f 180, f 181], []⟩ wc := by
  obtain ⟨y0, y1, _⟩ := P6.out.two
  have c0 : (xa == 0) = false := by simpa using q0
  have c1 : (xa == 1) = false := by simpa using q1
  have c2 : (xa == 2) = false := by simpa using q2
  have hu := And.intro hk1 (And.intro NF.out (And.intro HXN.out (And.intro HTH.out (And.intro q0 (And.intro q1 q2)))))
  clear hu q0 q1 q2
  conv => arg 2; whnf
  go_wp2_with fail
  exact HK.out _ _ ⟨rfl, rfl, rfl, rfl, rfl, rfl, rfl, rfl⟩ ⟨n, F, D, L, by omega, by omega, ⟨HH.out.rc, HH.out.mp, HH.out.tr.next (by omega), HH.out.lo, HH.out.nb⟩, BL.out⟩
set_option maxRecDepth 1000000 in
set_option maxHeartbeats 16000000 in
theorem tail_ok {N : Nat} {W : World} {f : Nat → Value} {A : Option Addr} {len cap g b4 k : Nat} {wc : World} {Q : Exit → Go.Act → World → Prop}
    (hk1 : k < 200) (HM : Hid (Mid N W g b4 (k + 1) wc)) (HQ : Hid (∀ a' w', Fr a' A len cap g b4 k → Mid N W g b4 (k + 1) w' → Q .normal a' w')) :
    Code.wp Try.prog tail Q ⟨#[.slice A len cap, f 1, f 2, .pointer (some ⟨g, 0, none⟩), .map (some b4), f 5, f 6, f 7, f 8, f 9, f 10, f 11, f 12, f 13, f 14, f 15, f 16, f 17, f 18, f 19, f 20, f 21, f 22, f 23, f 24, .slice A len cap, .int .i64 (len : Int), .int .i64 (k : Int), f 28, f 29, f 30, f 31, f 32, f 33, f 34, f 35, f 36, f 37, f 38, f 39, f 40, f 41, f 42, f 43, f 44, f 45, f 46, f 47, f 48, f 49, f 50, f 51, f 52, f 53, f 54, f 55, f 56, f 57, f 58, f 59, f 60, f 61, f 62, f 63, f 64, f 65, f 66, f 67, f 68, f 69, f 70, f 71, f 72, f 73, f 74, f 75, f 76, f 77, f 78, f 79, f 80, f 81, f 82, f 83, f 84, f 85, f 86, f 87, f 88, f 89, f 90, f 91, f 92, f 93, f 94, f 95, f 96, f 97, f 98, f 99, f 100, f 101, f 102, f 103, f 104, f 105, f 106, f 107, f 108, f 109, f 110, f 111, f 112, f 113, f 114, f 115, f 116, f 117, f 118, f 119, f 120, f 121, f 122, f 123, f 124, f 125, f 126, f 127, f 128, f 129, f 130, f 131, f 132, f 133, f 134, f 135, f 136, f 137, f 138, f 139, f 140, f 141, f 142, f 143, f 144, f 145, f 146, f 147, f 148, f 149, f 150, f 151, f 152, f 153, f 154, f 155, f 156, f 157, f 158, f 159, f 160, f 161, f 162, f 163, f 164, f 165, f 166, f 167, f 168, f 169, f 170, f 171, f 172, f 173, f 174, f 175, f 176, f 177, f 178, f 179, f 180, f 181], []⟩ wc := by
  obtain ⟨n, F, D, L, hn, hL, hho, hbl⟩ := HM.out
  have HH := Lib.hid ((⟨hho.rc.tight, hho.mp, hho.tr, fun j hj => hho.lo j hj.1, hho.nb⟩ : Ho N (fun j => F j ∧ j < wc.heap.size) wc g b4 n D L ((k + 1 : Nat) : Int)))
  have BL := Lib.hid hbl
  have hz := hho.sz
  have l4 := hho.mp.lt
  have hLn : L.length ≤ 201 := by omega
  have OL := Lib.hid (Ue.oldest_any HH.out.rc)
  unfold lkPost at OL
  rw [(ev_old L).1, (ev_old L).2] at OL
  clear hho hbl hk1
  conv => arg 2; whnf
  go_wp2_with fail
  refine OL.out.mono ?_
  rintro r w1 ⟨rfl, hb⟩
  have HH1 := Lib.hid (HH.out.below hb)
  have B1 := Lib.hid (BL.out.trans (hb.mono hz))
  have hz1 := hb.size
  clear hb OL HH BL
  go_wp2_with fail
  go_loopw [10, 11, 12] (fun v x e wr => ∃ (j : Nat) (X : Option Addr) (d : Nat), j ≤ L.length ∧ v = .slice X j d ∧ x = .int .i64 (L.getD j 0) ∧ e = .int .i64 (ev L j) ∧ Mine w1.heap.size 1 wr X j d (iv (L.take j)) ∧ Below w1.heap.size w1 wr) (fun v _ _ _ => match v with | .slice _ j _ => L.length - j | _ => 0)
  case atStart => exact ⟨0, none, 0, Nat.zero_le _, rfl, rfl, rfl, Mine.nil _ _ _, Below.refl _ _⟩
  case round =>
    obtain ⟨j, X, d, hj, rfl, rfl, rfl, hm, hb⟩ := hrel
    have MM := Lib.hid hm; have BB := Lib.hid hb
    have HHr := Lib.hid (HH1.out.below hb)
    have hzr := hb.size
    clear hm hb
    by_cases hlt : j < L.length
    · have ee : ev L j = 0 := if_pos hlt
      have hml : (Builtin.len_ #[43] 3 #[.map (some b4)]).run Try.prog wr = .ok (.int .i64 (L.length : Int)) wr := by
        have := World.ownsMap.len HHr.out.mp Try.underlying43 3
        rw [HHr.out.tr.sz] at this; exact this
      have hjl : (j : Int) ≤ (L.length : Int) := by omega
      obtain ⟨x, hx⟩ : ∃ x, x = L.getD j 0 := ⟨_, rfl⟩
      have HX := Lib.hid hx
      have EN := Lib.hid (ev_next HHr.out.tr.nd HHr.out.rc.sl hlt)
      have TK : Hid (L.take (j + 1) = L.take j ++ [x]) := by show _ = _; rw [List.take_succ_eq_append_getElem hlt, hx, List.getD_eq_getElem?_getD, List.getElem?_eq_getElem hlt]; rfl
      rw [ee, ← hx]
      rw [← hx] at EN
      clear ee hx
      go_wp2_with (at_builtin; (refine wpList_mine rfl _ _ elI _ rfl rfl (MM.out.below (bnew wr (.cells #[.int .i64 x] 3)) (Nat.le_refl _)) _ rfl 1 _ (src_lit Try.underlying26 #[.int .i64 x] 1 1 rfl (by simp [Value.oneCell'])) (by omega) (by omega) (by simp; omega) ?_))
      intro A5 c5 w5 m5 g5 _
      have M5 : Hid (Mine w1.heap.size 1 w5 A5 (j + 1) c5 (iv (L.take (j + 1)))) := by
        show Mine _ _ _ _ _ _ _
        rw [TK.out, iv_snoc]; exact m5
      have BB5 : Hid (Below w1.heap.size w1 w5) := (BB.out.trans ((bnew wr (.cells #[.int .i64 x] 3)).mono (by omega))).trans ((only_row (F := fun j => w1.heap.size ≤ j) g5 (fun a ha => (MM.out.base ha).1)).below (fun _ h => h) (by simp; omega))
      have HH5 := Lib.hid (HH1.out.below BB5.out)
      have hz5 := BB5.out.size
      have NX := Lib.hid (Ue.next_any HH5.out.rc x)
      unfold lkPost at NX
      rw [EN.out.1, EN.out.2] at NX
      clear m5 g5 hml
      go_wp2_with fail
      refine NX.out.mono ?_
      rintro r w6 ⟨rfl, hb⟩
      have M6 := Lib.hid (M5.out.below hb (Nat.le_refl _))
      have BB6 := Lib.hid (BB5.out.trans (hb.mono hz5))
      clear hb NX
      go_wp2_with fail
      go_roundw
      case rel => exact ⟨j + 1, A5, c5, by omega, by first | rfl | go_num, rfl, rfl, M6.out, BB6.out⟩
      case measure => simp; omega
    · obtain rfl : j = L.length := by omega
      have ee : (ev L L.length == 0) = false := by unfold ev; rw [if_neg (by omega)]; split <;> rfl
      have MM2 : Hid (Mine w1.heap.size 1 wr X L.length d (iv L)) := by show Mine _ _ _ _ _ _ _; have := MM.out; rw [List.take_of_length_le (Nat.le_refl _)] at this; exact this
      have B2 := Lib.hid (B1.out.trans (BB.out.mono (by omega)))
      obtain ⟨e0, he0⟩ : ∃ e0, e0 = ev L L.length := ⟨_, rfl⟩
      obtain ⟨x0, hx0⟩ : ∃ x0, x0 = L.getD L.length 0 := ⟨_, rfl⟩
      rw [← he0] at ee ⊢
      rw [← hx0]
      have hml : (Builtin.len_ #[43] 3 #[.map (some b4)]).run Try.prog wr = .ok (.int .i64 (L.length : Int)) wr := by
        have := World.ownsMap.len HHr.out.mp Try.underlying43 3
        rw [HHr.out.tr.sz] at this; exact this
      have ALL := Lib.hid (all_true (Ue.all_any HHr.out.rc) (by omega) (Li.mine MM2.out))
      unfold boolTo at ALL
      clear he0 hx0 MM BB
      go_wp2_with fail
      refine ALL.out.mono ?_
      rintro r w2 ⟨rfl, hb⟩
      have HH2 := Lib.hid (HHr.out.below hb)
      have B3 := Lib.hid (B2.out.trans (hb.mono (by omega)))
      have M3 := Lib.hid (MM2.out.below hb (Nat.le_refl _))
      have hz2 := hb.size
      clear hb ALL MM2 B2 HHr hml
      go_wp2_with fail
      go_loopw [129] (fun i wr => ∃ j : Nat, j ≤ L.length ∧ i = .int .i64 (j : Int) ∧ Below w2.heap.size w2 wr) (fun i _ => L.length - (intOf i).toNat)
      case atStart => exact ⟨0, Nat.zero_le _, rfl, Below.refl _ _⟩
      case round =>
        obtain ⟨j, hj, rfl, hb⟩ := hrel
        have BB := Lib.hid hb
        have HHr := Lib.hid (HH2.out.below hb)
        have MMr := Lib.hid (M3.out.below hb (Nat.le_refl _))
        have hzr' := hb.size
        clear hb
        by_cases hlt : j < L.length
        · have j1 : (j : Int) < (L.length : Int) := by omega
          obtain ⟨fv, hfv, hfl⟩ := HHr.out.tr.lt
          have HFV := Lib.hid hfv; have HFL := Lib.hid hfl
          clear hfv hfl
          obtain ⟨tb, to_, rfl, ltb, a0⟩ := (Li.mine MMr.out).at_ hlt
          have hin : Hid (In L[j]) := by have := HHr.out.rc.sl _ (List.getElem_mem hlt); exact ⟨by have := this.1; omega, by have := this.2; omega⟩
          have hat : Hid (D.atKey (kl L[j]) (.lit (.int .i64 0)) = .lit (.int .i64 (fv L[j]))) := HFV.out _ (List.getElem_mem hlt)
          have hhs : Hid (Go.Maps.has D (kl L[j]) = true) := by show _ = _; rw [HHr.out.tr.mem]; simp
          obtain ⟨y, hy⟩ : ∃ y, y = L[j] := ⟨_, rfl⟩
          have HY := Lib.hid hy
          rw [← hy] at a0 hin hat hhs
          obtain ⟨cy, hcy⟩ : ∃ cy, cy = fv y := ⟨_, rfl⟩
          rw [← hcy] at hat
          have HCY := Lib.hid hcy
          clear hy hcy
          by_cases hj0 : j = 0
          · have hd0 : decide ((0 : Int) < (j : Int)) = false := by simp [hj0]
            have hdn : decide (0 < j) = false := by simp [hj0]
            clear hj0
            go_wp2_with (at_lookup; refine at_ok _ rfl _ _ rfl b4 n D rfl HHr.out.mp y hin.out rfl cy true hat.out hhs.out ?_)
            go_quiet (fail)
            have BBq := Lib.hid (BB.out.trans (((Only.refl (fun _ => False) wr).drewN nq).below (fun _ hf => hf.elim) BB.out.size))
            go_wp2_with fail
            go_roundw
            case rel => exact ⟨j + 1, by omega, by go_num, BBq.out⟩
            case measure => simp [intOf]; omega
          · obtain ⟨i, rfl⟩ : ∃ i, j = i + 1 := ⟨j - 1, by omega⟩
            have hli : i < L.length := by omega
            obtain ⟨tb2, to2, e2, _, b0⟩ := (Li.mine MMr.out).at_ hli
            injection e2 with e2; injection e2 with e21 e22; subst e21; subst e22
            have hpi : In L[i] := by have := HHr.out.rc.sl _ (List.getElem_mem hli); exact ⟨by have := this.1; omega, by have := this.2; omega⟩
            have hat2 := HFV.out _ (List.getElem_mem hli)
            have hlt2 := HFL.out i hlt
            rw [← HY.out, ← HCY.out] at hlt2
            obtain ⟨p, hp⟩ : ∃ p, p = L[i] := ⟨_, rfl⟩
            rw [← hp] at b0 hpi hat2 hlt2
            obtain ⟨cp, hcp⟩ : ∃ cp, cp = fv p := ⟨_, rfl⟩
            rw [← hcp] at hat2 hlt2
            have LK1 : ∀ m, (Instr.lookup 43 (.map (some b4)) (.int .i64 p) false).run Try.prog (wr.drewN m) = .ok (.int .i64 cp) (wr.drewN m) := fun m => look_run (HHr.out.mp.kept ((Only.refl (fun _ => False) wr).drewN m) (fun h => h)) hpi hat2
            have LK2 : ∀ m, (Instr.lookup 43 (.map (some b4)) (.int .i64 y) false).run Try.prog (wr.drewN m) = .ok (.int .i64 cy) (wr.drewN m) := fun m => look_run (HHr.out.mp.kept ((Only.refl (fun _ => False) wr).drewN m) (fun h => h)) hin.out hat.out
            have hd0 : decide ((0 : Int) < ((i + 1 : Nat) : Int)) = true := by rw [decide_eq_true_eq]; omega
            have hd1 : decide (cy ≤ cp) = false := by simp; omega
            have i1 : (i : Int) < (L.length : Int) := by omega
            have i2 : (((i + 1 : Nat) : Int) - 1) = (i : Int) := by omega
            have i3 : IntKind.i64.wrap (((i + 1 : Nat) : Int) - 1) = (i : Int) := by rw [i2, IntKind.wrap_i64]; omega
            have hu := And.intro hj0 (And.intro hpi (And.intro hat2 (And.intro hlt2 (And.intro hp hcp))))
            clear hu hj0 hpi hat2 hlt2 hp hcp
            go_wp2_with (at_lookup; refine at_ok _ rfl _ _ rfl b4 n D rfl HHr.out.mp y hin.out rfl cy true hat.out hhs.out ?_)
            go_quiet (fail)
            have BBq := Lib.hid (BB.out.trans (((Only.refl (fun _ => False) wr).drewN nq).below (fun _ hf => hf.elim) BB.out.size))
            go_wp2_with fail
            go_roundw
            case rel => exact ⟨i + 1 + 1, by omega, by go_num, BBq.out⟩
            case measure => simp [intOf]; omega
        · obtain rfl : j = L.length := by omega
          have hnn : ¬ (L.length : Int) < L.length := by omega
          have B4 := Lib.hid (B3.out.trans (BB.out.mono (by omega)))
          by_cases h0 : L.length = 0
          · have hg0 : ¬ (0 : Int) < (L.length : Int) := by omega
            have hd : decide ((0 : Int) < (L.length : Int)) = false := by simp [h0]
            clear h0
            go_wp2_with fail
            exact HQ.out _ _ ⟨rfl, rfl, rfl, rfl, rfl, rfl, rfl, rfl⟩ ⟨n, _, D, L, hn, hL, HHr.out, B4.out⟩
          · obtain ⟨m, hm⟩ : ∃ m, m + 1 = L.length := ⟨L.length - 1, by omega⟩
            have hml : m < L.length := by omega
            have i1 : (m : Int) < (L.length : Int) := by omega
            have i2 : (L.length : Int) - 1 = (m : Int) := by omega
            have i3 : IntKind.i64.wrap ((L.length : Int) - 1) = (m : Int) := by rw [i2, IntKind.wrap_i64]; omega
            have hg0 : (0 : Int) < (L.length : Int) := by omega
            obtain ⟨tb, to_, rfl, ltb, a0⟩ := (Li.mine MMr.out).at_ hml
            obtain ⟨u1, u2⟩ := use_last HHr.out.tr.nd HHr.out.rc.sl hm
            have US := Lib.hid (Ue.use_any HHr.out.rc L[m])
            unfold wrPost at US
            rw [u1, u2] at US
            obtain ⟨y, hy⟩ : ∃ y, y = L[m] := ⟨_, rfl⟩
            rw [← hy] at US a0
            clear hm h0 u1 u2 hy hnn
            go_wp2_with fail
            refine US.out.mono ?_
            rintro r w4 ⟨rfl, hr, ho⟩
            have HR4 := Lib.hid hr; have O4 := Lib.hid ho
            have hz4 := ho.size
            have M4 := Lib.hid (MMr.out.only ho (fun a ha hf => by have := (MMr.out.base ha).1; have := hf.2; omega))
            have MP4 := Lib.hid (HHr.out.mp.kept ho (fun hf => (HHr.out.lo _ hf).2 rfl))
            have B5 := Lib.hid (B4.out.trans (ho.below (fun j hj => (HHr.out.lo j hj).1) (by omega)))
            have H4 := Lib.hid (HHr.out.stored HR4.out MP4.out (Only.refl _ _) HHr.out.tr)
            have ALL := Lib.hid (all_true (Ue.all_any H4.out.rc) (by omega) (Li.mine M4.out))
            unfold boolTo at ALL
            clear hr ho US a0
            go_wp2_with fail
            refine ALL.out.mono ?_
            rintro r w5 ⟨rfl, hb⟩
            have H5 := Lib.hid (H4.out.below hb)
            have B6 := Lib.hid (B5.out.trans (hb.mono (by omega)))
            clear hb ALL
            go_wp2_with fail
            exact HQ.out _ _ ⟨rfl, rfl, rfl, rfl, rfl, rfl, rfl, rfl⟩ ⟨n, _, D, L, hn, hL, H5.out, B6.out⟩
set_option maxRecDepth 1000000 in
set_option maxHeartbeats 4000000 in
theorem sw_ok {N : Nat} {W : World} {f : Nat → Value} {A : Option Addr} {len cap g b4 k b6 : Nat} {cv : Int} {th : Bool} {wc : World} {K : Go.Act → World → Prop} {Q : Exit → Go.Act → World → Prop} {n : Nat} {F : Nat → Prop} {D : DataW Unit} {L : List Int} {xa xn : Int}
    (hk1 : k < 200) (hnk : n ≤ k) (hLk : L.length ≤ k) (HH : Hid (Ho N F wc g b4 n D L (k : Int))) (BL : Hid (Below N W wc)) (P6 : Hid (Blk wc b6 #[.int .i64 xa, .int .i64 xn] 28)) (NF : Hid (¬ F b6)) (HXN : Hid (In xn)) (HTH : Hid (th = decide (xn ∈ L)))
    (HK : Hid (∀ a' w', Fr a' A len cap g b4 k → Mid N W g b4 (k + 1) w' → K a' w')) :
    Code.wp Try.prog sw (Exit.then K Q) ⟨#[.slice A len cap, f 1, f 2, .pointer (some ⟨g, 0, none⟩), .map (some b4), .int .i64 (k : Int), .pointer (some ⟨b6, 0, none⟩), .int .i64 cv, .bool th, f 9, f 10, f 11, f 12, f 13, f 14, f 15, f 16, f 17, f 18, f 19, f 20, f 21, f 22, f 23, f 24, .slice A len cap, .int .i64 (len : Int), .int .i64 (k : Int), f 28, f 29, f 30, f 31, f 32, f 33, f 34, f 35, f 36, f 37, f 38, f 39, f 40, f 41, f 42, f 43, f 44, f 45, f 46, f 47, f 48, f 49, f 50, f 51, f 52, f 53, f 54, f 55, f 56, f 57, f 58, f 59, f 60, f 61, f 62, f 63, f 64, f 65, f 66, f 67, f 68, f 69, f 70, f 71, f 72, f 73, f 74, f 75, f 76, f 77, f 78, f 79, f 80, f 81, f 82, f 83, f 84, f 85, f 86, f 87, f 88, f 89, f 90, f 91, f 92, f 93, f 94, f 95, f 96, f 97, f 98, f 99, f 100, f 101, f 102, f 103, f 104, f 105, f 106, f 107, f 108, f 109, f 110, f 111, f 112, f 113, f 114, f 115, f 116, f 117, f 118, f 119, f 120, f 121, f 122, f 123, f 124, f 125, f 126, f 127, f 128, f 129, f 130, f 131, f 132, f 133, f 134, f 135, f 136, f 137, f 138, f 139, f 140, f 141, f 142, f 143, f 144, f 145, f 146, f 147, f 148, f 149, f 150, f 151, f 152, f 153, f 154, f 155, f 156, f 157, f 158, f 159, f 160, f 161, f 162, f 163, f 164, f 165, f 166, f 167, f 168, f 169, f 170, f 171, f 172, f 173, f 174, f 175, f 176, f 177, f 178, f 179, f 180, f 181], []⟩ wc := by
  by_cases q0 : xa = 0
  · exact sw0 hk1 hnk hLk HH BL P6 NF HXN HTH HK q0
  · by_cases q1 : xa = 1
    · exact sw1 hk1 hnk hLk HH BL P6 NF HXN HTH HK q1
    · by_cases q2 : xa = 2
      · exact sw2 hk1 hnk hLk HH BL P6 NF HXN HTH HK q2
      · exact sw9 hk1 hnk hLk HH BL P6 NF HXN HTH HK q0 q1 q2
set_option maxRecDepth 1000000 in
set_option maxHeartbeats 16000000 in
/-- The first two statements of a round, whatever follows them. -/
theorem pre_ok {N : Nat} {W : World} {f : Nat → Value} {A : Option Addr} {cap g b4 k : Nat} {wr : World} {Q : Exit → Go.Act → World → Prop} {l : List (Int × Int)} {X : Code}
    (hlt : k < l.length) (HN : Hid (N = W.heap.size)) (HD : Hid (Rs W 2 A l.length cap (acL l))) (HL : Hid (∀ x ∈ l, In x.2)) (hmid : Mid N W g b4 k wr)
    (HX : Hid (∀ (a' : Go.Act) (w' : World) (b6 n : Nat) (cv : Int) (th : Bool) (F : Nat → Prop) (D : DataW Unit) (L : List Int) (xa xn : Int), FrA a' A l.length cap g b4 k b6 cv th → n ≤ k → L.length ≤ k → Hid (Ho N F w' g b4 n D L (k : Int)) → Hid (Below N W w') → Hid (Blk w' b6 #[.int .i64 xa, .int .i64 xn] 28) → Hid (¬ F b6) → Hid (In xn) → Hid (th = decide (xn ∈ L)) → Code.wp Try.prog X Q a' w')) :
    Code.wp Try.prog (Code.seq r9 (Code.seq r10 X)) Q ⟨#[.slice A l.length cap, f 1, f 2, .pointer (some ⟨g, 0, none⟩), .map (some b4), f 5, f 6, f 7, f 8, f 9, f 10, f 11, f 12, f 13, f 14, f 15, f 16, f 17, f 18, f 19, f 20, f 21, f 22, f 23, f 24, .slice A l.length cap, .int .i64 (l.length : Int), .int .i64 (k : Int), f 28, f 29, f 30, f 31, f 32, f 33, f 34, f 35, f 36, f 37, f 38, f 39, f 40, f 41, f 42, f 43, f 44, f 45, f 46, f 47, f 48, f 49, f 50, f 51, f 52, f 53, f 54, f 55, f 56, f 57, f 58, f 59, f 60, f 61, f 62, f 63, f 64, f 65, f 66, f 67, f 68, f 69, f 70, f 71, f 72, f 73, f 74, f 75, f 76, f 77, f 78, f 79, f 80, f 81, f 82, f 83, f 84, f 85, f 86, f 87, f 88, f 89, f 90, f 91, f 92, f 93, f 94, f 95, f 96, f 97, f 98, f 99, f 100, f 101, f 102, f 103, f 104, f 105, f 106, f 107, f 108, f 109, f 110, f 111, f 112, f 113, f 114, f 115, f 116, f 117, f 118, f 119, f 120, f 121, f 122, f 123, f 124, f 125, f 126, f 127, f 128, f 129, f 130, f 131, f 132, f 133, f 134, f 135, f 136, f 137, f 138, f 139, f 140, f 141, f 142, f 143, f 144, f 145, f 146, f 147, f 148, f 149, f 150, f 151, f 152, f 153, f 154, f 155, f 156, f 157, f 158, f 159, f 160, f 161, f 162, f 163, f 164, f 165, f 166, f 167, f 168, f 169, f 170, f 171, f 172, f 173, f 174, f 175, f 176, f 177, f 178, f 179, f 180, f 181], []⟩ wr := by
  obtain ⟨n, F, D, L, hnk, hLk, hho, hbl⟩ := hmid
  have HO := Lib.hid (⟨hho.rc.tight, hho.mp, hho.tr, fun j hj => hho.lo j hj.1, hho.nb⟩ : Ho N (fun j => F j ∧ j < wr.heap.size) wr g b4 n D L (k : Int))
  have BL := Lib.hid hbl
  have hz := hho.sz
  have j1 : (k : Int) < (l.length : Int) := by omega
  have hdl := HD.out.le
  have hdm := HD.out.max
  unfold maxLen at hdm
  obtain ⟨f0, f1⟩ := acL_get l k hlt
  have RD := HD.out.rd.below BL.out (by have := HN.out; omega)
  obtain ⟨tb, to_, rfl, ltb, a0⟩ := RD.at_ f0
  obtain ⟨tb', to', e1, _, a1⟩ := RD.at_ f1
  injection e1 with e1; injection e1 with e11 e12; subst e11; subst e12
  rw [← Nat.add_assoc] at a1
  have hxn := HL.out _ (List.getElem_mem hlt)
  obtain ⟨⟨xa, xn⟩, hx⟩ : ∃ x, x = l[k] := ⟨_, rfl⟩
  rw [← hx] at a0 a1 hxn
  simp only at a0 a1 hxn
  have HXN := Lib.hid hxn
  obtain ⟨v0, hv0⟩ : ∃ v0, v0 = wr.alloc (.cells #[.int .i64 xa, .int .i64 xn] 28) := ⟨_, rfl⟩
  obtain ⟨b6, hb6⟩ : ∃ b6, b6 = wr.heap.size := ⟨_, rfl⟩
  have b0 : Below wr.heap.size wr v0 := by rw [hv0]; exact bnew _ _
  have P6 : Hid (Blk v0 b6 #[.int .i64 xa, .int .i64 xn] 28) := by show Blk _ _ _ _; rw [hv0, hb6]; exact Blk.new _ _ _
  have HO0 := Lib.hid (HO.out.below b0)
  have BL0 := Lib.hid (BL.out.trans (b0.mono hz))
  have NF : Hid (¬ (F b6 ∧ b6 < wr.heap.size)) := fun h => by omega
  obtain ⟨cv, hcv, hth⟩ := HO.out.tr.look xn
  obtain ⟨th, hTH⟩ : ∃ th, th = decide (xn ∈ L) := ⟨_, rfl⟩
  have HTH := Lib.hid hTH
  rw [← hTH] at hth
  have HCV := Lib.hid hcv; have HHS := Lib.hid hth
  clear f0 f1 RD hx b0 hxn hcv hth hTH hho hbl HO BL
  conv => arg 2; arg 1; whnf
  conv => arg 2; arg 2; arg 1; whnf
  go_upto_region 10 with (fail)
  rw [← hv0, ← hb6]
  clear hv0 hb6 a0 a1
  obtain ⟨y0, y1, _⟩ := P6.out.two
  go_wp2_with (at_lookup; refine at_ok _ rfl _ _ rfl b4 n D rfl HO0.out.mp xn HXN.out rfl cv th HCV.out HHS.out ?_)
  exact HX.out _ _ b6 n cv th _ D L xa xn ⟨⟨rfl, rfl, rfl, rfl, rfl, rfl, rfl, rfl⟩, rfl, rfl, rfl, rfl⟩ hnk hLk HO0 BL0 P6 NF HXN HTH
set_option maxRecDepth 1000000 in
set_option maxHeartbeats 4000000 in
theorem body_ok {N : Nat} {W : World} {a : Go.Act} {A : Option Addr} {cap g b4 k : Nat} {wr : World} {Q : Exit → Go.Act → World → Prop} {l : List (Int × Int)}
    (hfr0 : Fr a A l.length cap g b4 k) (hlt : k < l.length) (hl100 : l.length ≤ 100) (HN : Hid (N = W.heap.size)) (HD : Hid (Rs W 2 A l.length cap (acL l))) (HL : Hid (∀ x ∈ l, In x.2)) (hmid : Mid N W g b4 k wr)
    (HQ : Hid (∀ a' w', Fr a' A l.length cap g b4 k → Mid N W g b4 (k + 1) w' → Q .normal a' w')) :
    Code.wp Try.prog blk1 Q a wr := by
  obtain ⟨f, rfl⟩ := hfr0.opened
  rw [blk_eq]
  refine pre_ok hlt HN HD HL hmid (Lib.hid fun a' w' b6 n cv th F D L xa xn hfr hnk hLk HO BL P6 NF HXN HTH => ?_)
  obtain ⟨f', rfl⟩ := hfr.opened
  refine wp_seq (sw_ok (by omega) hnk hLk HO BL P6 NF HXN HTH (Lib.hid fun a2 w2 h1 h2 => ?_))
  obtain ⟨f2, rfl⟩ := h1.opened
  exact tail_ok (by omega) (Lib.hid h2) HQ
set_option maxRecDepth 1000000 in
set_option maxHeartbeats 16000000 in
theorem holds_walk (C : Option Addr) (q : Nat) (l : List (Int × Int)) (W : World) (ha : Rs W 2 C l.length q (acL l)) (hl : ∀ x ∈ l, In x.2) :
    Calls Try.prog 7 #[.slice C l.length q] W (boolTo true W) := by
  have HD := Lib.hid ha
  have HL := Lib.hid hl
  have hdl := ha.le
  have hdm := ha.max
  unfold maxLen at hdm
  clear ha hl
  obtain ⟨N, hN⟩ : ∃ N, N = W.heap.size := ⟨_, rfl⟩
  have HN := Lib.hid hN
  unfold boolTo
  rw [← hN]
  clear hN
  have hmm := @run_makeMap Try.prog
  by_cases h100 : 100 < l.length
  · have i1 : (100 : Int) < (l.length : Int) := by omega
    go_enter Try.func7, Try.ntmps7
    go_wp2_with fail
    refine (known_any W).mono ?_
    rintro e w1 ⟨rfl, hb⟩
    have HB := Lib.hid hb
    clear hb
    go_wp2_with fail
    go_ret
    exact ⟨rfl, by rw [HN.out]; exact HB.out⟩
  have i1 : (l.length : Int) ≤ 100 := by omega
  have hl100 : l.length ≤ 100 := by omega
  have HNW := Lib.hid (new_any W)
  unfold mkPost at HNW
  rw [← HN.out] at HNW
  clear h100
  go_enter Try.func7, Try.ntmps7
  go_wp2_with fail
  refine HNW.out.mono ?_
  rintro e w1 ⟨g, rfl, ha, hb⟩
  have HA := Lib.hid ha.tight; have HB1 := Lib.hid hb
  have hz1 : N ≤ w1.heap.size := by rw [HN.out]; exact hb.size
  clear ha hb HNW
  go_upto_region 7 with (fail)
  obtain ⟨b4, hb4⟩ : ∃ b4, b4 = w1.heap.size := ⟨_, rfl⟩
  obtain ⟨w3, hw3⟩ : ∃ w3, w3 = w1.alloc (.map #[] 0) := ⟨_, rfl⟩
  have b3 : Below w1.heap.size w1 w3 := by rw [hw3]; exact bnew _ _
  have HB3 := Lib.hid (HB1.out.trans (b3.mono hz1))
  have HM0 : Hid (Mid N W g b4 0 w3) := ⟨0, _, _, [], Nat.le_refl _, Nat.zero_le _, ⟨HA.out.below b3 (Nat.le_refl _), by rw [hw3, hb4]; exact made w1, tr_start, fun j hj => ⟨hj.1, by have := hj.2; omega⟩, by omega⟩, HB3.out⟩
  rw [← hw3, ← hb4]
  clear hw3 hb4 b3 HA HB1 HB3
  go_wp2_with fail
  refine wp_loop (fun a' w' => ∃ k : Nat, k ≤ l.length ∧ Fr a' C l.length q g b4 k ∧ Mid N W g b4 k w') (fun a' _ => l.length - (intOf (a'.tmps.getD 27 undef)).toNat) ?_ ?_
  · exact ⟨0, Nat.zero_le _, ⟨rfl, rfl, rfl, rfl, rfl, rfl, rfl, rfl⟩, HM0.out⟩
  · rintro a wr ⟨k, hk, hfr, hm⟩
    obtain ⟨f, rfl⟩ := hfr.opened
    have HM := Lib.hid hm
    clear hfr hm HM0
    by_cases hlt : k < l.length
    · have j1 : (k : Int) < (l.length : Int) := by omega
      go_upto_block 1 with fail
      refine wp_block ?_
      refine body_ok ⟨rfl, rfl, rfl, rfl, rfl, rfl, rfl, rfl⟩ hlt hl100 HN HD HL HM.out (Lib.hid fun a' w' h1 h2 => ?_)
      obtain ⟨f', rfl⟩ := h1.opened
      have H2 := Lib.hid h2
      clear h1 h2
      go_wp2_with fail
      refine ⟨⟨k + 1, by omega, ⟨rfl, rfl, rfl, rfl, rfl, rfl, rfl, rfl⟩, H2.out⟩, ?_⟩
      simp [intOf]; omega
    · obtain rfl : k = l.length := by omega
      have hnn : ¬ (l.length : Int) < l.length := by omega
      obtain ⟨n, F, D, L, _, _, hho, hbl⟩ := HM.out
      have BL := Lib.hid hbl
      have hNr := hho.sz
      clear hbl hho
      go_wp2_with fail
      refine (known_any _).mono ?_
      rintro r v ⟨rfl, hbk⟩
      have HBK := Lib.hid hbk
      clear hbk
      go_wp2_with fail
      go_ret
      exact ⟨rfl, BL.out.trans (HBK.out.mono hNr)⟩
end Go.Proofs.Ytfoalfemkpiniaa.Um
