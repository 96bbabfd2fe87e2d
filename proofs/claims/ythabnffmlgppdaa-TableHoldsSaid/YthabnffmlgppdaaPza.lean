/- Proves words for TableHolds: the two tables and the map, apart; frames of the law; pieces of its code. No condition. -/
import Derived.Test.YthabnffmlgppdaaPv
import Derived.BigFrame
namespace Go.Proofs.Ythabnffmlgppdaa.Pza
open Go.RowKit Go.Maps Ap Mi Nw Rg Hm Tm Tn Ta Tb Pm Pa Pb Pc Pd Pe Pf Pg Ph Pn Pj Pk Pq Px Pu Pv
open Tf (okK okK_spec Puts Gets)

/-- Two tables of the program and the map in block b, apart. -/
structure Base (N : Nat) (w : World) (F1 F2 : Nat → Prop) (g1 g2 b n : Nat) (D : DataW Unit) (s1 s2 : Int) (c d : List (Cell Key)) : Prop where
  t1 : Pt F1 w g1 s1 c
  t2 : Pt F2 w g2 s2 d
  mp : Owns w b n D
  f1 : ∀ j, F1 j → N ≤ j ∧ j < w.heap.size ∧ j ≠ b ∧ ¬ F2 j
  f2 : ∀ j, F2 j → N ≤ j ∧ j < w.heap.size ∧ j ≠ b
  nb : N ≤ b
section
variable {N : Nat} {w w' : World} {F1 F2 H : Nat → Prop} {g1 g2 b n : Nat} {D : DataW Unit} {s1 s2 : Int} {c d c' d' : List (Cell Key)}
theorem Base.only (h : Base N w F1 F2 g1 g2 b n D s1 s2 c d) (ho : Only H w w') (h1 : ∀ j, H j → ¬ F1 j) (h2 : ∀ j, H j → ¬ F2 j) (hb : ¬ H b) : Base N w' F1 F2 g1 g2 b n D s1 s2 c d :=
  have hz := ho.size
  ⟨h.t1.only ho (fun j hf hh => h1 j hh hf), h.t2.only ho (fun j hf hh => h2 j hh hf), h.mp.kept ho hb, fun j hf => ⟨(h.f1 j hf).1, Nat.lt_of_lt_of_le (h.f1 j hf).2.1 hz, (h.f1 j hf).2.2⟩, fun j hf => ⟨(h.f2 j hf).1, Nat.lt_of_lt_of_le (h.f2 j hf).2.1 hz, (h.f2 j hf).2.2⟩, h.nb⟩
theorem Base.below {B : Nat} (h : Base N w F1 F2 g1 g2 b n D s1 s2 c d) (hb : Below B w w') (hB : w.heap.size ≤ B) : Base N w' F1 F2 g1 g2 b n D s1 s2 c d :=
  h.only (Only.of_below hb hB (fun _ => False)) (fun _ hf => hf.elim) (fun _ hf => hf.elim) (fun hf => hf)
theorem Base.one (h : Base N w F1 F2 g1 g2 b n D s1 s2 c d) (hN : N ≤ w.heap.size) (t : Pt (More F1 w) w' g1 s1 c') (ho : Only F1 w w') : Base N w' (fun j => More F1 w j ∧ j < w'.heap.size) F2 g1 g2 b n D s1 s2 c' d := by
  have hz := ho.size
  have hbl := h.mp.lt
  refine ⟨t.tight, h.t2.only ho (fun j hf hh => (h.f1 j hh).2.2.2 hf), h.mp.kept ho (fun hf => (h.f1 b hf).2.2.1 rfl), fun j hj => ?_, fun j hf => ⟨(h.f2 j hf).1, Nat.lt_of_lt_of_le (h.f2 j hf).2.1 hz, (h.f2 j hf).2.2⟩, h.nb⟩
  rcases hj.1 with hf | hf
  · exact ⟨(h.f1 j hf).1, hj.2, (h.f1 j hf).2.2⟩
  · exact ⟨by omega, hj.2, by omega, fun h2 => by have := (h.f2 j h2).2.1; omega⟩
theorem Base.two (h : Base N w F1 F2 g1 g2 b n D s1 s2 c d) (hN : N ≤ w.heap.size) (t : Pt (More F2 w) w' g2 s2 d') (ho : Only F2 w w') : Base N w' F1 (fun j => More F2 w j ∧ j < w'.heap.size) g1 g2 b n D s1 s2 c d' := by
  have hz := ho.size
  have hbl := h.mp.lt
  refine ⟨h.t1.only ho (fun j hf hh => (h.f1 j hf).2.2.2 hh), t.tight, h.mp.kept ho (fun hf => (h.f2 b hf).2.2 rfl), fun j hj => ⟨(h.f1 j hj).1, Nat.lt_of_lt_of_le (h.f1 j hj).2.1 hz, (h.f1 j hj).2.2.1, fun h2 => ?_⟩, fun j hj => ?_, h.nb⟩
  · rcases h2.1 with hf | hf
    · exact (h.f1 j hj).2.2.2 hf
    · have := (h.f1 j hj).2.1; omega
  · rcases hj.1 with hf | hf
    · exact ⟨(h.f2 j hf).1, hj.2, (h.f2 j hf).2.2⟩
    · exact ⟨by omega, hj.2, by omega⟩
theorem Base.store {n' : Nat} {D' : DataW Unit} (h : Base N w F1 F2 g1 g2 b n D s1 s2 c d) (hw : Owns w' b n' D') (ho : Only (fun k => k = b) w w') : Base N w' F1 F2 g1 g2 b n' D' s1 s2 c d :=
  have hz := ho.size
  ⟨h.t1.only ho (fun j hf e => (h.f1 j hf).2.2.1 e), h.t2.only ho (fun j hf e => (h.f2 j hf).2.2 e), hw, fun j hf => ⟨(h.f1 j hf).1, Nat.lt_of_lt_of_le (h.f1 j hf).2.1 hz, (h.f1 j hf).2.2⟩, fun j hf => ⟨(h.f2 j hf).1, Nat.lt_of_lt_of_le (h.f2 j hf).2.1 hz, (h.f2 j hf).2.2⟩, h.nb⟩
end
/-- The map's look-up, as the law has it: is the key there? -/
theorem there_of {D : DataW Unit} {mv : Key → Option Int} {c : List (Cell Key)} (h : Trk D mv c) (k : Key) : ((mv k).isSome = true ∧ 0 ≤ (mv k).getD 0 ∧ ∃ y : Nat, some (k, y) ∈ c ∧ (mv k).getD 0 = (y : Int)) ∨ ((mv k).isSome = true ∧ (mv k).getD 0 < 0 ∧ ∀ y, some (k, y) ∉ c) ∨ ((mv k).isSome = false ∧ (mv k).getD 0 = 0 ∧ ∀ y, some (k, y) ∉ c) := by
  cases e : mv k with
  | none => exact Or.inr (Or.inr ⟨rfl, rfl, fun y hy => by have := (h.mem k y).1 hy; rw [e] at this; cases this⟩)
  | some v =>
    by_cases hv : 0 ≤ v
    · exact Or.inl ⟨rfl, hv, v.toNat, (h.mem k _).2 (by rw [e]; congr 1; omega), by simp; omega⟩
    · refine Or.inr (Or.inl ⟨rfl, by simp; omega, fun y hy => ?_⟩)
      have := (h.mem k y).1 hy
      rw [e] at this
      simp only [Option.some.injEq] at this
      omega
/-- The state between the rounds: at most m keys were put in. -/
def Mid (N : Nat) (W : World) (g1 g2 b9 : Nat) (s1 s2 : Int) (m : Nat) (w : World) : Prop :=
  ∃ (n : Nat) (F1 F2 : Nat → Prop) (c d : List (Cell Key)) (D : DataW Unit) (mv : Key → Option Int), n ≤ m ∧ cnt c ≤ m ∧ Base N w F1 F2 g1 g2 b9 n D s1 s2 c d ∧ Two s1 s2 c d ∧ Trk D mv c ∧ Below N W w ∧ N ≤ w.heap.size
/-- A frame of the law, inside its loop. -/
structure Fr (a : Go.Act) (s1 : Int) (A : Option Addr) (len cap g1 g2 b9 k : Nat) : Prop where
  df : a.defers = []
  sz : a.tmps.size = 304
  h0 : a.tmps.getD 0 undef = .int .u64 s1
  h2 : a.tmps.getD 2 undef = .slice A len cap
  h7 : a.tmps.getD 7 undef = .pointer (some ⟨g1, 0, none⟩)
  h8 : a.tmps.getD 8 undef = .pointer (some ⟨g2, 0, none⟩)
  h9 : a.tmps.getD 9 undef = .map (some b9)
  h50 : a.tmps.getD 50 undef = .slice A len cap
  h51 : a.tmps.getD 51 undef = .int .i64 (len : Int)
  h52 : a.tmps.getD 52 undef = .int .i64 (k : Int)
/-- .. behind the look-up of a call's key. -/
structure FrA (a : Go.Act) (s1 : Int) (A : Option Addr) (len cap g1 g2 b9 k b11 : Nat) (nv : Int) (th : Bool) : Prop where
  fr : Fr a s1 A len cap g1 g2 b9 k
  h11 : a.tmps.getD 11 undef = .pointer (some ⟨b11, 0, none⟩)
  h12 : a.tmps.getD 12 undef = .int .i64 nv
  h13 : a.tmps.getD 13 undef = .bool th
set_option maxRecDepth 1000000 in
theorem arr_eq (t : Array Value) (h : t.size = 304) : t = #[t.getD 0 undef, t.getD 1 undef, t.getD 2 undef, t.getD 3 undef, t.getD 4 undef, t.getD 5 undef, t.getD 6 undef, t.getD 7 undef, t.getD 8 undef, t.getD 9 undef, t.getD 10 undef, t.getD 11 undef, t.getD 12 undef, t.getD 13 undef, t.getD 14 undef, t.getD 15 undef, t.getD 16 undef, t.getD 17 undef, t.getD 18 undef, t.getD 19 undef, t.getD 20 undef, t.getD 21 undef, t.getD 22 undef, t.getD 23 undef, t.getD 24 undef, t.getD 25 undef, t.getD 26 undef, t.getD 27 undef, t.getD 28 undef, t.getD 29 undef, t.getD 30 undef, t.getD 31 undef, t.getD 32 undef, t.getD 33 undef, t.getD 34 undef, t.getD 35 undef, t.getD 36 undef, t.getD 37 undef, t.getD 38 undef, t.getD 39 undef, t.getD 40 undef, t.getD 41 undef, t.getD 42 undef, t.getD 43 undef, t.getD 44 undef, t.getD 45 undef, t.getD 46 undef, t.getD 47 undef, t.getD 48 undef, t.getD 49 undef, t.getD 50 undef, t.getD 51 undef, t.getD 52 undef, t.getD 53 undef, t.getD 54 undef, t.getD 55 undef, t.getD 56 undef, t.getD 57 undef, t.getD 58 undef, t.getD 59 undef, t.getD 60 undef, t.getD 61 undef, t.getD 62 undef, t.getD 63 undef, t.getD 64 undef, t.getD 65 undef, t.getD 66 undef, t.getD 67 undef, t.getD 68 undef, t.getD 69 undef, t.getD 70 undef, t.getD 71 undef, t.getD 72 undef, t.getD 73 undef, t.getD 74 undef, t.getD 75 undef, t.getD 76 undef, t.getD 77 undef, t.getD 78 undef, t.getD 79 undef, t.getD 80 undef, t.getD 81 undef, t.getD 82 undef, t.getD 83 undef, t.getD 84 undef, t.getD 85 undef, t.getD 86 undef, t.getD 87 undef, t.getD 88 undef, t.getD 89 undef, t.getD 90 undef, t.getD 91 undef, t.getD 92 undef, t.getD 93 undef, t.getD 94 undef, t.getD 95 undef, t.getD 96 undef, t.getD 97 undef, t.getD 98 undef, t.getD 99 undef, t.getD 100 undef, t.getD 101 undef, t.getD 102 undef, t.getD 103 undef, t.getD 104 undef, t.getD 105 undef, t.getD 106 undef, t.getD 107 undef, t.getD 108 undef, t.getD 109 undef, t.getD 110 undef, t.getD 111 undef, t.getD 112 undef, t.getD 113 undef, t.getD 114 undef, t.getD 115 undef, t.getD 116 undef, t.getD 117 undef, t.getD 118 undef, t.getD 119 undef, t.getD 120 undef, t.getD 121 undef, t.getD 122 undef, t.getD 123 undef, t.getD 124 undef, t.getD 125 undef, t.getD 126 undef, t.getD 127 undef, t.getD 128 undef, t.getD 129 undef, t.getD 130 undef, t.getD 131 undef, t.getD 132 undef, t.getD 133 undef, t.getD 134 undef, t.getD 135 undef, t.getD 136 undef, t.getD 137 undef, t.getD 138 undef, t.getD 139 undef, t.getD 140 undef, t.getD 141 undef, t.getD 142 undef, t.getD 143 undef, t.getD 144 undef, t.getD 145 undef, t.getD 146 undef, t.getD 147 undef, t.getD 148 undef, t.getD 149 undef, t.getD 150 undef, t.getD 151 undef, t.getD 152 undef, t.getD 153 undef, t.getD 154 undef, t.getD 155 undef, t.getD 156 undef, t.getD 157 undef, t.getD 158 undef, t.getD 159 undef, t.getD 160 undef, t.getD 161 undef, t.getD 162 undef, t.getD 163 undef, t.getD 164 undef, t.getD 165 undef, t.getD 166 undef, t.getD 167 undef, t.getD 168 undef, t.getD 169 undef, t.getD 170 undef, t.getD 171 undef, t.getD 172 undef, t.getD 173 undef, t.getD 174 undef, t.getD 175 undef, t.getD 176 undef, t.getD 177 undef, t.getD 178 undef, t.getD 179 undef, t.getD 180 undef, t.getD 181 undef, t.getD 182 undef, t.getD 183 undef, t.getD 184 undef, t.getD 185 undef, t.getD 186 undef, t.getD 187 undef, t.getD 188 undef, t.getD 189 undef, t.getD 190 undef, t.getD 191 undef, t.getD 192 undef, t.getD 193 undef, t.getD 194 undef, t.getD 195 undef, t.getD 196 undef, t.getD 197 undef, t.getD 198 undef, t.getD 199 undef, t.getD 200 undef, t.getD 201 undef, t.getD 202 undef, t.getD 203 undef, t.getD 204 undef, t.getD 205 undef, t.getD 206 undef, t.getD 207 undef, t.getD 208 undef, t.getD 209 undef, t.getD 210 undef, t.getD 211 undef, t.getD 212 undef, t.getD 213 undef, t.getD 214 undef, t.getD 215 undef, t.getD 216 undef, t.getD 217 undef, t.getD 218 undef, t.getD 219 undef, t.getD 220 undef, t.getD 221 undef, t.getD 222 undef, t.getD 223 undef, t.getD 224 undef, t.getD 225 undef, t.getD 226 undef, t.getD 227 undef, t.getD 228 undef, t.getD 229 undef, t.getD 230 undef, t.getD 231 undef, t.getD 232 undef, t.getD 233 undef, t.getD 234 undef, t.getD 235 undef, t.getD 236 undef, t.getD 237 undef, t.getD 238 undef, t.getD 239 undef, t.getD 240 undef, t.getD 241 undef, t.getD 242 undef, t.getD 243 undef, t.getD 244 undef, t.getD 245 undef, t.getD 246 undef, t.getD 247 undef, t.getD 248 undef, t.getD 249 undef, t.getD 250 undef, t.getD 251 undef, t.getD 252 undef, t.getD 253 undef, t.getD 254 undef, t.getD 255 undef, t.getD 256 undef, t.getD 257 undef, t.getD 258 undef, t.getD 259 undef, t.getD 260 undef, t.getD 261 undef, t.getD 262 undef, t.getD 263 undef, t.getD 264 undef, t.getD 265 undef, t.getD 266 undef, t.getD 267 undef, t.getD 268 undef, t.getD 269 undef, t.getD 270 undef, t.getD 271 undef, t.getD 272 undef, t.getD 273 undef, t.getD 274 undef, t.getD 275 undef, t.getD 276 undef, t.getD 277 undef, t.getD 278 undef, t.getD 279 undef, t.getD 280 undef, t.getD 281 undef, t.getD 282 undef, t.getD 283 undef, t.getD 284 undef, t.getD 285 undef, t.getD 286 undef, t.getD 287 undef, t.getD 288 undef, t.getD 289 undef, t.getD 290 undef, t.getD 291 undef, t.getD 292 undef, t.getD 293 undef, t.getD 294 undef, t.getD 295 undef, t.getD 296 undef, t.getD 297 undef, t.getD 298 undef, t.getD 299 undef, t.getD 300 undef, t.getD 301 undef, t.getD 302 undef, t.getD 303 undef] := by
  have e : #[t.getD 0 undef, t.getD 1 undef, t.getD 2 undef, t.getD 3 undef, t.getD 4 undef, t.getD 5 undef, t.getD 6 undef, t.getD 7 undef, t.getD 8 undef, t.getD 9 undef, t.getD 10 undef, t.getD 11 undef, t.getD 12 undef, t.getD 13 undef, t.getD 14 undef, t.getD 15 undef, t.getD 16 undef, t.getD 17 undef, t.getD 18 undef, t.getD 19 undef, t.getD 20 undef, t.getD 21 undef, t.getD 22 undef, t.getD 23 undef, t.getD 24 undef, t.getD 25 undef, t.getD 26 undef, t.getD 27 undef, t.getD 28 undef, t.getD 29 undef, t.getD 30 undef, t.getD 31 undef, t.getD 32 undef, t.getD 33 undef, t.getD 34 undef, t.getD 35 undef, t.getD 36 undef, t.getD 37 undef, t.getD 38 undef, t.getD 39 undef, t.getD 40 undef, t.getD 41 undef, t.getD 42 undef, t.getD 43 undef, t.getD 44 undef, t.getD 45 undef, t.getD 46 undef, t.getD 47 undef, t.getD 48 undef, t.getD 49 undef, t.getD 50 undef, t.getD 51 undef, t.getD 52 undef, t.getD 53 undef, t.getD 54 undef, t.getD 55 undef, t.getD 56 undef, t.getD 57 undef, t.getD 58 undef, t.getD 59 undef, t.getD 60 undef, t.getD 61 undef, t.getD 62 undef, t.getD 63 undef, t.getD 64 undef, t.getD 65 undef, t.getD 66 undef, t.getD 67 undef, t.getD 68 undef, t.getD 69 undef, t.getD 70 undef, t.getD 71 undef, t.getD 72 undef, t.getD 73 undef, t.getD 74 undef, t.getD 75 undef, t.getD 76 undef, t.getD 77 undef, t.getD 78 undef, t.getD 79 undef, t.getD 80 undef, t.getD 81 undef, t.getD 82 undef, t.getD 83 undef, t.getD 84 undef, t.getD 85 undef, t.getD 86 undef, t.getD 87 undef, t.getD 88 undef, t.getD 89 undef, t.getD 90 undef, t.getD 91 undef, t.getD 92 undef, t.getD 93 undef, t.getD 94 undef, t.getD 95 undef, t.getD 96 undef, t.getD 97 undef, t.getD 98 undef, t.getD 99 undef, t.getD 100 undef, t.getD 101 undef, t.getD 102 undef, t.getD 103 undef, t.getD 104 undef, t.getD 105 undef, t.getD 106 undef, t.getD 107 undef, t.getD 108 undef, t.getD 109 undef, t.getD 110 undef, t.getD 111 undef, t.getD 112 undef, t.getD 113 undef, t.getD 114 undef, t.getD 115 undef, t.getD 116 undef, t.getD 117 undef, t.getD 118 undef, t.getD 119 undef, t.getD 120 undef, t.getD 121 undef, t.getD 122 undef, t.getD 123 undef, t.getD 124 undef, t.getD 125 undef, t.getD 126 undef, t.getD 127 undef, t.getD 128 undef, t.getD 129 undef, t.getD 130 undef, t.getD 131 undef, t.getD 132 undef, t.getD 133 undef, t.getD 134 undef, t.getD 135 undef, t.getD 136 undef, t.getD 137 undef, t.getD 138 undef, t.getD 139 undef, t.getD 140 undef, t.getD 141 undef, t.getD 142 undef, t.getD 143 undef, t.getD 144 undef, t.getD 145 undef, t.getD 146 undef, t.getD 147 undef, t.getD 148 undef, t.getD 149 undef, t.getD 150 undef, t.getD 151 undef, t.getD 152 undef, t.getD 153 undef, t.getD 154 undef, t.getD 155 undef, t.getD 156 undef, t.getD 157 undef, t.getD 158 undef, t.getD 159 undef, t.getD 160 undef, t.getD 161 undef, t.getD 162 undef, t.getD 163 undef, t.getD 164 undef, t.getD 165 undef, t.getD 166 undef, t.getD 167 undef, t.getD 168 undef, t.getD 169 undef, t.getD 170 undef, t.getD 171 undef, t.getD 172 undef, t.getD 173 undef, t.getD 174 undef, t.getD 175 undef, t.getD 176 undef, t.getD 177 undef, t.getD 178 undef, t.getD 179 undef, t.getD 180 undef, t.getD 181 undef, t.getD 182 undef, t.getD 183 undef, t.getD 184 undef, t.getD 185 undef, t.getD 186 undef, t.getD 187 undef, t.getD 188 undef, t.getD 189 undef, t.getD 190 undef, t.getD 191 undef, t.getD 192 undef, t.getD 193 undef, t.getD 194 undef, t.getD 195 undef, t.getD 196 undef, t.getD 197 undef, t.getD 198 undef, t.getD 199 undef, t.getD 200 undef, t.getD 201 undef, t.getD 202 undef, t.getD 203 undef, t.getD 204 undef, t.getD 205 undef, t.getD 206 undef, t.getD 207 undef, t.getD 208 undef, t.getD 209 undef, t.getD 210 undef, t.getD 211 undef, t.getD 212 undef, t.getD 213 undef, t.getD 214 undef, t.getD 215 undef, t.getD 216 undef, t.getD 217 undef, t.getD 218 undef, t.getD 219 undef, t.getD 220 undef, t.getD 221 undef, t.getD 222 undef, t.getD 223 undef, t.getD 224 undef, t.getD 225 undef, t.getD 226 undef, t.getD 227 undef, t.getD 228 undef, t.getD 229 undef, t.getD 230 undef, t.getD 231 undef, t.getD 232 undef, t.getD 233 undef, t.getD 234 undef, t.getD 235 undef, t.getD 236 undef, t.getD 237 undef, t.getD 238 undef, t.getD 239 undef, t.getD 240 undef, t.getD 241 undef, t.getD 242 undef, t.getD 243 undef, t.getD 244 undef, t.getD 245 undef, t.getD 246 undef, t.getD 247 undef, t.getD 248 undef, t.getD 249 undef, t.getD 250 undef, t.getD 251 undef, t.getD 252 undef, t.getD 253 undef, t.getD 254 undef, t.getD 255 undef, t.getD 256 undef, t.getD 257 undef, t.getD 258 undef, t.getD 259 undef, t.getD 260 undef, t.getD 261 undef, t.getD 262 undef, t.getD 263 undef, t.getD 264 undef, t.getD 265 undef, t.getD 266 undef, t.getD 267 undef, t.getD 268 undef, t.getD 269 undef, t.getD 270 undef, t.getD 271 undef, t.getD 272 undef, t.getD 273 undef, t.getD 274 undef, t.getD 275 undef, t.getD 276 undef, t.getD 277 undef, t.getD 278 undef, t.getD 279 undef, t.getD 280 undef, t.getD 281 undef, t.getD 282 undef, t.getD 283 undef, t.getD 284 undef, t.getD 285 undef, t.getD 286 undef, t.getD 287 undef, t.getD 288 undef, t.getD 289 undef, t.getD 290 undef, t.getD 291 undef, t.getD 292 undef, t.getD 293 undef, t.getD 294 undef, t.getD 295 undef, t.getD 296 undef, t.getD 297 undef, t.getD 298 undef, t.getD 299 undef, t.getD 300 undef, t.getD 301 undef, t.getD 302 undef, t.getD 303 undef].toList = (List.range 304).map (fun i => t.getD i undef) := rfl
  refine Array.toList_inj.1 ?_
  rw [e]
  refine List.ext_getElem (by simp [h]) (fun i h1 h2 => ?_)
  have hi : i < t.size := by simpa using h1
  simp [Array.getD, hi]
set_option maxRecDepth 1000000 in
theorem Fr.opened {a : Go.Act} {s1 : Int} {A : Option Addr} {len cap g1 g2 b9 k : Nat} (h : Fr a s1 A len cap g1 g2 b9 k) : ∃ f : Nat → Value, a = ⟨#[.int .u64 s1, f 1, .slice A len cap, f 3, f 4, f 5, f 6, .pointer (some ⟨g1, 0, none⟩), .pointer (some ⟨g2, 0, none⟩), .map (some b9), f 10, f 11, f 12, f 13, f 14, f 15, f 16, f 17, f 18, f 19, f 20, f 21, f 22, f 23, f 24, f 25, f 26, f 27, f 28, f 29, f 30, f 31, f 32, f 33, f 34, f 35, f 36, f 37, f 38, f 39, f 40, f 41, f 42, f 43, f 44, f 45, f 46, f 47, f 48, f 49, .slice A len cap, .int .i64 (len : Int), .int .i64 (k : Int), f 53, f 54, f 55, f 56, f 57, f 58, f 59, f 60, f 61, f 62, f 63, f 64, f 65, f 66, f 67, f 68, f 69, f 70, f 71, f 72, f 73, f 74, f 75, f 76, f 77, f 78, f 79, f 80, f 81, f 82, f 83, f 84, f 85, f 86, f 87, f 88, f 89, f 90, f 91, f 92, f 93, f 94, f 95, f 96, f 97, f 98, f 99, f 100, f 101, f 102, f 103, f 104, f 105, f 106, f 107, f 108, f 109, f 110, f 111, f 112, f 113, f 114, f 115, f 116, f 117, f 118, f 119, f 120, f 121, f 122, f 123, f 124, f 125, f 126, f 127, f 128, f 129, f 130, f 131, f 132, f 133, f 134, f 135, f 136, f 137, f 138, f 139, f 140, f 141, f 142, f 143, f 144, f 145, f 146, f 147, f 148, f 149, f 150, f 151, f 152, f 153, f 154, f 155, f 156, f 157, f 158, f 159, f 160, f 161, f 162, f 163, f 164, f 165, f 166, f 167, f 168, f 169, f 170, f 171, f 172, f 173, f 174, f 175, f 176, f 177, f 178, f 179, f 180, f 181, f 182, f 183, f 184, f 185, f 186, f 187, f 188, f 189, f 190, f 191, f 192, f 193, f 194, f 195, f 196, f 197, f 198, f 199, f 200, f 201, f 202, f 203, f 204, f 205, f 206, f 207, f 208, f 209, f 210, f 211, f 212, f 213, f 214, f 215, f 216, f 217, f 218, f 219, f 220, f 221, f 222, f 223, f 224, f 225, f 226, f 227, f 228, f 229, f 230, f 231, f 232, f 233, f 234, f 235, f 236, f 237, f 238, f 239, f 240, f 241, f 242, f 243, f 244, f 245, f 246, f 247, f 248, f 249, f 250, f 251, f 252, f 253, f 254, f 255, f 256, f 257, f 258, f 259, f 260, f 261, f 262, f 263, f 264, f 265, f 266, f 267, f 268, f 269, f 270, f 271, f 272, f 273, f 274, f 275, f 276, f 277, f 278, f 279, f 280, f 281, f 282, f 283, f 284, f 285, f 286, f 287, f 288, f 289, f 290, f 291, f 292, f 293, f 294, f 295, f 296, f 297, f 298, f 299, f 300, f 301, f 302, f 303], []⟩ := by
  refine ⟨fun i => a.tmps.getD i undef, ?_⟩
  have e := arr_eq a.tmps h.sz
  rw [h.h0, h.h2, h.h7, h.h8, h.h9, h.h50, h.h51, h.h52] at e
  show (⟨a.tmps, a.defers⟩ : Go.Act) = ⟨_, []⟩
  rw [h.df]
  exact congrArg (fun t => (⟨t, []⟩ : Go.Act)) e
set_option maxRecDepth 1000000 in
theorem FrA.opened {a : Go.Act} {s1 : Int} {A : Option Addr} {len cap g1 g2 b9 k b11 : Nat} {nv : Int} {th : Bool} (h : FrA a s1 A len cap g1 g2 b9 k b11 nv th) : ∃ f : Nat → Value, a = ⟨#[.int .u64 s1, f 1, .slice A len cap, f 3, f 4, f 5, f 6, .pointer (some ⟨g1, 0, none⟩), .pointer (some ⟨g2, 0, none⟩), .map (some b9), f 10, .pointer (some ⟨b11, 0, none⟩), .int .i64 nv, .bool th, f 14, f 15, f 16, f 17, f 18, f 19, f 20, f 21, f 22, f 23, f 24, f 25, f 26, f 27, f 28, f 29, f 30, f 31, f 32, f 33, f 34, f 35, f 36, f 37, f 38, f 39, f 40, f 41, f 42, f 43, f 44, f 45, f 46, f 47, f 48, f 49, .slice A len cap, .int .i64 (len : Int), .int .i64 (k : Int), f 53, f 54, f 55, f 56, f 57, f 58, f 59, f 60, f 61, f 62, f 63, f 64, f 65, f 66, f 67, f 68, f 69, f 70, f 71, f 72, f 73, f 74, f 75, f 76, f 77, f 78, f 79, f 80, f 81, f 82, f 83, f 84, f 85, f 86, f 87, f 88, f 89, f 90, f 91, f 92, f 93, f 94, f 95, f 96, f 97, f 98, f 99, f 100, f 101, f 102, f 103, f 104, f 105, f 106, f 107, f 108, f 109, f 110, f 111, f 112, f 113, f 114, f 115, f 116, f 117, f 118, f 119, f 120, f 121, f 122, f 123, f 124, f 125, f 126, f 127, f 128, f 129, f 130, f 131, f 132, f 133, f 134, f 135, f 136, f 137, f 138, f 139, f 140, f 141, f 142, f 143, f 144, f 145, f 146, f 147, f 148, f 149, f 150, f 151, f 152, f 153, f 154, f 155, f 156, f 157, f 158, f 159, f 160, f 161, f 162, f 163, f 164, f 165, f 166, f 167, f 168, f 169, f 170, f 171, f 172, f 173, f 174, f 175, f 176, f 177, f 178, f 179, f 180, f 181, f 182, f 183, f 184, f 185, f 186, f 187, f 188, f 189, f 190, f 191, f 192, f 193, f 194, f 195, f 196, f 197, f 198, f 199, f 200, f 201, f 202, f 203, f 204, f 205, f 206, f 207, f 208, f 209, f 210, f 211, f 212, f 213, f 214, f 215, f 216, f 217, f 218, f 219, f 220, f 221, f 222, f 223, f 224, f 225, f 226, f 227, f 228, f 229, f 230, f 231, f 232, f 233, f 234, f 235, f 236, f 237, f 238, f 239, f 240, f 241, f 242, f 243, f 244, f 245, f 246, f 247, f 248, f 249, f 250, f 251, f 252, f 253, f 254, f 255, f 256, f 257, f 258, f 259, f 260, f 261, f 262, f 263, f 264, f 265, f 266, f 267, f 268, f 269, f 270, f 271, f 272, f 273, f 274, f 275, f 276, f 277, f 278, f 279, f 280, f 281, f 282, f 283, f 284, f 285, f 286, f 287, f 288, f 289, f 290, f 291, f 292, f 293, f 294, f 295, f 296, f 297, f 298, f 299, f 300, f 301, f 302, f 303], []⟩ := by
  refine ⟨fun i => a.tmps.getD i undef, ?_⟩
  have e := arr_eq a.tmps h.fr.sz
  rw [h.fr.h0, h.fr.h2, h.fr.h7, h.fr.h8, h.fr.h9, h.fr.h50, h.fr.h51, h.fr.h52, h.h11, h.h12, h.h13] at e
  show (⟨a.tmps, a.defers⟩ : Go.Act) = ⟨_, []⟩
  rw [h.fr.df]
  exact congrArg (fun t => (⟨t, []⟩ : Go.Act)) e
/-- Pieces of the law's code. -/
def findB (n : Nat) : Code → Option Code
  | .block i c => if i = n then some c else findB n c
  | .seq x y => match findB n x with
    | some c => some c
    | none => findB n y
  | .loop c => findB n c
  | .scope c => findB n c
  | .cond _ x y => match findB n x with
    | some c => some c
    | none => findB n y
  | _ => none
def fstC : Code → Code
  | .seq x _ => x
  | c => c
def sndC : Code → Code
  | .seq _ y => y
  | c => c
noncomputable def blk1 : Code := (Try.f7.body.bind (findB 1)).getD .skip
noncomputable def sw : Code := fstC (sndC (sndC (sndC blk1)))
noncomputable def tail : Code := sndC (sndC (sndC (sndC blk1)))
end Go.Proofs.Ythabnffmlgppdaa.Pza
