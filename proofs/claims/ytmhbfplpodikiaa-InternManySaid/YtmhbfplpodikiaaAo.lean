/- Proves what the law's name returns. Conditions: as each theorem names them. -/
import Derived.Test.YtmhbfplpodikiaaAm
namespace Go.Proofs.Ytmhbfplpodikiaa.Ao
open Go.RowKit Ap Mi Nw Rg Aa Ab Ac Ad Ag Ah Ai Aj Ak Al Am

def dg (n : Int) : UInt8 := UInt8.ofNat (48 + n).toNat
def dgs (n : Int) : List UInt8 := [dg (n / 1000 % 10), dg (n / 100 % 10), dg (n / 10 % 10), dg (n % 10)]
theorem dg_val {n : Int} (h : 0 ≤ n ∧ n < 10) : ((dg n).toNat : Int) = 48 + n := by
  unfold dg
  rw [UInt8.toNat_ofNat_of_lt' (by show (48 + n).toNat < 256; omega)]
  omega
def dgS (n : Int) : ByteArray := ⟨(dgs n).toArray⟩
def nameS (n : Int) : ByteArray := ⟨#[116, 97, 103]⟩ ++ dgS n
theorem nameS_size (n : Int) : (nameS n).size = 7 := by unfold nameS; rw [ByteArray.size_append]; rfl
set_option maxRecDepth 100000 in
set_option maxHeartbeats 4000000 in
theorem name_any (n : Int) (hn : 0 ≤ n ∧ n ≤ 9999) (w : World) : Calls Try.prog 20 #[.int .i64 n] w (fun q w' => q = .returned (.string (nameS n)) ∧ Below w.heap.size w w') := by
  obtain ⟨h0, h1⟩ := hn
  have e1 : n.tdiv 1000 = n / 1000 := Int.tdiv_eq_ediv_of_nonneg h0
  have e2 : n.tdiv 100 = n / 100 := Int.tdiv_eq_ediv_of_nonneg h0
  have e3 : n.tdiv 10 = n / 10 := Int.tdiv_eq_ediv_of_nonneg h0
  have r1 : (n / 1000).tmod 10 = n / 1000 % 10 := Int.tmod_eq_emod_of_nonneg (by omega)
  have r2 : (n / 100).tmod 10 = n / 100 % 10 := Int.tmod_eq_emod_of_nonneg (by omega)
  have r3 : (n / 10).tmod 10 = n / 10 % 10 := Int.tmod_eq_emod_of_nonneg (by omega)
  have r4 : n.tmod 10 = n % 10 := Int.tmod_eq_emod_of_nonneg h0
  obtain ⟨v, hv⟩ : ∃ v, v = w.alloc (.cells #[.int .u8 (48 + n / 1000 % 10), .int .u8 (48 + n / 100 % 10), .int .u8 (48 + n / 10 % 10), .int .u8 (48 + n % 10)] 5) := ⟨_, rfl⟩
  have hb : Below w.heap.size w v := by rw [hv]; exact bnew _ _
  have HB := Lib.hid hb
  have hm : Mine w.heap.size 1 v (some ⟨w.heap.size, 0, none⟩) 4 4 [.int .u8 (48 + n / 1000 % 10), .int .u8 (48 + n / 100 % 10), .int .u8 (48 + n / 10 % 10), .int .u8 (48 + n % 10)] := by
    rw [hv]; exact Mine.lit w #[.int .u8 (48 + n / 1000 % 10), .int .u8 (48 + n / 100 % 10), .int .u8 (48 + n / 10 % 10), .int .u8 (48 + n % 10)] 5 4 rfl (by unfold maxLen; omega)
  have hr : Rs v 1 (some ⟨w.heap.size, 0, none⟩) 4 4 (byV (dgs n)) := by
    have e : byV (dgs n) = [.int .u8 (48 + n / 1000 % 10), .int .u8 (48 + n / 100 % 10), .int .u8 (48 + n / 10 % 10), .int .u8 (48 + n % 10)] := by
      show [Value.int .u8 ((dg (n / 1000 % 10)).toNat : Int), Value.int .u8 ((dg (n / 100 % 10)).toNat : Int), Value.int .u8 ((dg (n / 10 % 10)).toNat : Int), Value.int .u8 ((dg (n % 10)).toNat : Int)] = _
      rw [dg_val (by omega), dg_val (by omega), dg_val (by omega), dg_val (by omega)]
    rw [e]; exact Rs.mine hm
  have hcv := conv_rs (l := dgs n) (n := 4) rfl 4 hr
  obtain ⟨z, hz⟩ : ∃ z, z = dgS n := ⟨_, rfl⟩
  have hz4 : z.size = 4 := by rw [hz]; rfl
  have hzl : z.size ≤ 4 := by omega
  have hcv2 : (convert 51 9 (.slice (some ⟨w.heap.size, 0, none⟩) 4 4)).run Try.prog v = .ok (.string z) v := by rw [hz]; exact hcv
  have HN : Hid (nameS n = ⟨#[116, 97, 103]⟩ ++ z) := by show _ = _; rw [hz]; rfl
  obtain ⟨S, hS⟩ : ∃ S, S = nameS n := ⟨_, rfl⟩
  rw [← hS] at HN ⊢
  rw [hv] at hcv2
  have HB2 : Hid (Below w.heap.size w (w.alloc (.cells #[.int .u8 (48 + n / 1000 % 10), .int .u8 (48 + n / 100 % 10), .int .u8 (48 + n / 10 % 10), .int .u8 (48 + n % 10)] 5))) := bnew _ _
  clear hS hz hz4 hcv hr hm hb hv HB
  go_enter Try.func20, Try.ntmps20
  go_wp2_with fail
  go_ret
  exact ⟨by rw [HN.out]; rfl, HB2.out⟩
end Go.Proofs.Ytmhbfplpodikiaa.Ao
