/- Proves the contracts of the methods of package intern, as the laws' walks use them. Conditions: as each theorem names them. -/
import Derived.Test.YtmhbfplpodikiaaAd
import Derived.Test.YtmhbfplpodikiaaAe
import Derived.Test.YtmhbfplpodikiaaIno
namespace Go.Proofs.Ytmhbfplpodikiaa.Ag
open Go.RowKit Ap Mi Nw Aa Ab Ac

def ptV (g : Nat) : Value := .pointer (some ⟨g, 0, none⟩)
def mkPost (w : World) (m : Int) (l : List Nr) : Ending → World → Prop := Inn.mkPost w m l
def newPost (w : World) (m : Int) : Ending → World → Prop := Inn.newPost w m
section
variable {F F' : Nat → Prop} {w w' : World} {g : Nat} {m : Int} {l : List Nr}
theorem new_no {m : Int} (h : ¬ (1 ≤ m ∧ m ≤ 65536)) (sd : Int) (w : World) : Calls Try.prog 9 #[.int .i64 m, .int .u64 sd] w (vPost w (.tuple #[.pointer none, .int .i64 2])) := Inn.new_no h sd w
theorem new_yes {m : Int} (h : 1 ≤ m ∧ m ≤ 65536) (sd : Int) (hsd : 0 ≤ sd ∧ sd < 18446744073709551616) (w : World) : Calls Try.prog 9 #[.int .i64 m, .int .u64 sd] w (newPost w m) := Inn.new_yes h sd hsd w
theorem add_st (h : St F w g m l) (hf : Fine 2147483646 l) (k : ByteArray) (hk : k.size ≤ 1000000) : Calls Try.prog 18 #[.pointer (some ⟨g, 0, none⟩), .string k] w (fun q w' => q = .returned (.tuple #[.int .i64 (addV m l k), .int .i64 (addE m l k)]) ∧ Gave F w w' g m (addL m l k)) := Inj.add_st h hf k hk
theorem rel_st (h : St F w g m l) (n : Int) : Calls Try.prog 19 #[.pointer (some ⟨g, 0, none⟩), .int .i64 n] w (fun q w' => q = .returned (.tuple #[.bool (relB l n), .int .i64 (relE l n)]) ∧ Gave F w w' g m (relL l n)) := Inm.rel_st h n
theorem find_st (h : St F w g m l) (k : ByteArray) (hk : k.size ≤ 1000000) : Calls Try.prog 26 #[.pointer (some ⟨g, 0, none⟩), .string k] w (vPost w (.tuple #[.int .i64 (findV l k), .int .i64 (findE l k)])) := by
  obtain ⟨p, sd, H, ch, hd, S, cs, nx, R, cf, h1, ht, hsd, hm1, _⟩ := h
  exact (Ini.find_any h1 ht hsd hm1 k hk).mono fun _ _ ⟨e, q, hq⟩ => ⟨e, Ind.quiet_drew hq⟩
theorem name_st (h : St F w g m l) (n : Int) : Calls Try.prog 41 #[.pointer (some ⟨g, 0, none⟩), .int .i64 n] w (vPost w (.tuple #[.string (nameV l n), .int .i64 (nameE l n)])) := by
  have hl := h.len
  obtain ⟨p, sd, H, ch, hd, S, cs, nx, R, cf, h1, ht, hsd, hm1, _⟩ := h
  exact (Ini.name_any h1 (by omega) ht.rf hm1 n).mono fun _ _ ⟨e, hw⟩ => ⟨e, hw ▸ Below.refl _ _⟩
theorem refs_st (h : St F w g m l) (n : Int) : Calls Try.prog 39 #[.pointer (some ⟨g, 0, none⟩), .int .i64 n] w (vPost w (.tuple #[.int .i64 (refsV l n), .int .i64 (nameE l n)])) := by
  have hl := h.len
  obtain ⟨p, sd, H, ch, hd, S, cs, nx, R, cf, h1, ht, hsd, hm1, _⟩ := h
  exact (Ini.refs_any h1 (by omega) ht.rf hm1 n).mono fun _ _ ⟨e, hw⟩ => ⟨e, hw ▸ Below.refl _ _⟩
theorem names_fr (h : St F w g m l) : Calls Try.prog 25 #[.pointer (some ⟨g, 0, none⟩)] w (fun q w' => ∃ A c, q = .returned (.slice A (namesL l).length c) ∧ Rs w' 1 A (namesL l).length c (strs (namesL l)) ∧ (∀ a, A = some a → w.heap.size ≤ a.block) ∧ Below w.heap.size w w') := Ino.names_fr h
theorem names_st (h : St F w g m l) : Calls Try.prog 25 #[.pointer (some ⟨g, 0, none⟩)] w (fun q w' => ∃ A c, q = .returned (.slice A (namesL l).length c) ∧ Rs w' 1 A (namesL l).length c (strs (namesL l)) ∧ Below w.heap.size w w') :=
  (names_fr h).mono fun _ _ ⟨A, c, e, h1, _, h2⟩ => ⟨A, c, e, h1, h2⟩
theorem len_st (h : St F w g m l) : Calls Try.prog 27 #[.pointer (some ⟨g, 0, none⟩)] w (vPost w (.tuple #[.int .i64 (cnt l : Int), .int .i64 m])) := by
  have hl := h.len
  obtain ⟨p, sd, H, ch, hd, S, cs, nx, R, cf, h1, ht, hsd, hm1, _⟩ := h
  exact (Ini.len_any h1 (by omega) hm1).mono fun _ _ ⟨e, q, hq⟩ => ⟨e, Ind.quiet_drew hq⟩
theorem copy_st (h : St F w g m l) : Calls Try.prog 17 #[.pointer (some ⟨g, 0, none⟩)] w (mkPost w m l) := Inn.copy_st h
end
end Go.Proofs.Ytmhbfplpodikiaa.Ag
