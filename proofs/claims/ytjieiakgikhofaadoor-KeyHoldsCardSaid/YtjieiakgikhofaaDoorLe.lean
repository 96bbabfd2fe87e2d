/- Proves what the rows of package key's laws give the walks: the table of digits and the library's variable are laid; and a world that meets the rows' condition. No condition. -/
import Derived.Test.YtjieiakgikhofaaDoorLnames
import Derived.Test.YtjieiakgikhofaaDoorRow
import Derived.Test.YtjieiakgikhofaaDoorCards
import Derived.Test.YtjieiakgikhofaaDoorTie
import Derived.ProofKit
import Derived.OpenShut
import Derived.Deep.DeepHandedRow
import Derived.Lib.LaidTab
import Derived.Lay
import Derived.Shelf.Vars
import Derived.Stop.LaidErr
import Derived.Carry
import Derived.SliceStrings
namespace Go.Proofs.YtjieiakgikhofaaDoor.Le
open Go.ChangeShapes Go.WideShapes Go.ChangeAt Go.RowKit Kl

abbrev laid : List (String × DataW Unit) := Rows.keyNamesRow.laid
def digName : String := (Rows.keyNamesRow.laid.map (·.1)).getD 1 default
theorem gDig : Tryd.prog.globalNamed digName = some 0 := by kernel_rfl
theorem gDigType : (Tryd.prog.globals[(0 : Nat)]?).map (·.type) = some 72 := by kernel_rfl
theorem cells72 : Tryd.prog.cellsOf 72 = 16 := by kernel_rfl
theorem cells5 : Tryd.prog.cellsOf 5 = 1 := by kernel_rfl
theorem tail_of {P : Program} {x : String × DataW Unit} {r : List (String × DataW Unit)} {W : World} (h : laidMet P (x :: r) W) : laidMet P r W := h.tail
theorem env_of {W : World} (hL : laidMetH Tryd.prog laid W) (hsh : W.ShapedOpen Tryd.prog) : Env W := by
  rw [MakeChecks.laidMetH_plain _ _ _ (by kernel_rfl)] at hL
  have ht : Lib.TabIs Tryd.prog W digName .u8 [48, 49, 50, 51, 52, 53, 54, 55, 56, 57, 97, 98, 99, 100, 101, 102] :=
    Lib.tabIs_of_head gDig gDigType Tryd.underlying72 Tryd.underlying5 cells5 cells72 (tail_of hL)
  refine ⟨cell_of_shapedOpen_int (zero := #[.int .i64 0]) (t := 3) hsh (of_decide_eq_true (by kernel_rfl)) (by kernel_rfl) (by kernel_rfl) (by kernel_rfl) (by kernel_rfl) (by kernel_rfl), ?_⟩
  have hv : W.var? Tryd.prog digName = some digCells := ht
  unfold World.var? at hv
  rw [gDig] at hv
  simp only [Option.bind_some] at hv
  split at hv
  · rename_i cs t fr hh
    injection hv with hv
    subst hv
    exact ⟨t, fr, hh⟩
  · cases hv
noncomputable abbrev start (os : Os) : World := World.laidAll Tryd.prog os laid
theorem start_met (os : Os) (args : Array Value) : laidMet Tryd.prog laid ((start os).forCall (fun _ _ => 0) ⟨#[], args, []⟩).memory :=
  laidMet_laidAll args (by kernel_rfl) (by kernel_rfl)
theorem start_vars (os : Os) (args : Array Value) : ((start os).forCall (fun _ _ => 0) ⟨#[], args, []⟩).variablesB Tryd.prog = true := by kernel_rfl
theorem start_rest (os : Os) (args : Array Value) : (((start os).forCall (fun _ _ => 0) ⟨#[], args, []⟩).heap.toList.drop Tryd.prog.globals.size).take ((begin Tryd.prog (fun _ _ => 0) default).world.heap.size - Tryd.prog.globals.size) =
      (begin Tryd.prog (fun _ _ => 0) default).world.heap.toList.drop Tryd.prog.globals.size := by kernel_rfl

theorem laidOut : laidOutB Tryd.prog = true := by kernel_rfl
/-- What is read and handed back: nothing that was there before the call has changed. -/
theorem args_back {H : Type} {enc : TypeId × Value → H} {W W' : World} (hb : Below W.heap.size W W') : ∀ {ts : List TypeId} {vs : List Value} {ds : List (DataW H)} {p : List MemPlace},
    (∀ t ∈ ts, Tryd.prog.readableRec t = true ∧ t < Tryd.prog.types.size) → DataW.TrodAll enc Tryd.prog W 0 (fun _ => true) true ts vs ds p → (∀ x ∈ p, x.block < W.heap.size) →
    DataW.TrodAll enc Tryd.prog W' 0 (fun b => decide (b < W.heap.size)) true ts vs ds p
  | [], _, _, _, _, h, _ => by
    obtain ⟨rfl, rfl, rfl⟩ := trodAll_nil h
    exact trodAll_mk0
  | t :: ts, _, _, _, hts, h, hlt => by
    obtain ⟨v, vs, d, ds, p, q, rfl, rfl, rfl, h0, r0⟩ := trodAll_cons h
    have ht := hts t (by simp)
    exact trodAll_cons_mk (Below.trod laidOut ht.1 ht.2 h0 hb (fun x hx => hlt x (by simp [hx]))) (args_back hb (fun u hu => hts u (by simp [hu])) r0 (fun x hx => hlt x (by simp [hx])))
section
variable {H : Type} {enc : TypeId × Value → H}
theorem law_back {f : Func} {s : ChangeSpec} {W W' : World} {args : Array Value} {v : Value} {ds : List (DataW H)} {before : List MemPlace}
    (hW : DataW.Whole enc Tryd.prog f.params.toList s.vars false W args.toList ds [] before) (hb : Below W.heap.size W W')
    (hts : ∀ t ∈ f.params.toList, Tryd.prog.readableRec t = true ∧ t < Tryd.prog.types.size)
    (hargs : DataW.TrodAll enc Tryd.prog W 0 (fun _ => true) true f.params.toList args.toList ds before)
    (hres : ∀ (b : Nat) (sp : Nat → Bool) (hd : Bool), DataW.TrodAll enc Tryd.prog W' b sp hd f.resultTypes.toList (v.resultList f.resultTypes.size) (s.fn H (ds ++ [])).results [])
    (ea : (s.fn H (ds ++ [])).args = ds) (hvars : DataW.TrodVars enc Tryd.prog W' (fun b => decide (b < W.heap.size)) s.vars (s.fn H (ds ++ [])).vars []) :
    s.post enc Tryd.prog f false true false false W args v W' :=
  Rw.law_post hW hb hres (by rw [ea]; exact args_back hb hts hargs (fun x hx => by simpa using hW.lt x hx)) hvars
end
end Go.Proofs.YtjieiakgikhofaaDoor.Le
