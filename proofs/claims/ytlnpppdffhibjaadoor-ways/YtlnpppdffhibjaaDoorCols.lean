import Derived.Test.YtlnpppdffhibjaaDoorTab
import Derived.Test.YtlnpppdffhibjaaDoorBits
namespace Go.Proofs.YtlnpppdffhibjaaDoor.Planes
open Go.RowKit Mem FieldWalks Tab

def colsOf (f : Nat) : List Nat := (List.range 8).map fun b => Gf.times f (2 ^ b)
theorem infoCols : (Tryd.prog.info? 143).map (·.size) = some 8 := by kernel_rfl

set_option maxRecDepth 100000 in
set_option maxHeartbeats 400000 in
theorem columns_any (f : Nat) (hf : f < 256) (w : World) (ht : Table w) :
    Calls Tryd.prog 108 #[.int .u8 f] w fun e w' => e = .returned (.agg (bytesV (colsOf f)).toArray) ∧ Below w.heap.size w w' := by
  go_enter Tryd.func108, Tryd.ntmps108
  go_wp2
  go_loopw [5] (fun i wr => ∃ k : Nat, k ≤ 8 ∧ i = .int .i64 k ∧ Blk wr w.heap.size 143 (bytesV (zeros 8)) ∧ Blk wr (w.heap.size + 1) 143 (bytesV (mix (colsOf f) (zeros 8) k)) ∧ Below w.heap.size w wr) (fun i _ => 8 - (intOf i).toNat)
  case atStart => exact ⟨0, Nat.zero_le _, rfl, (Blk.new w _ _).alloc _, Blk.new1 w _ _ _, (Below.refl _ _).alloc (Nat.le_refl _) _ |>.alloc (by simp) _⟩
  case round =>
    obtain ⟨k, hk, rfl, hb1, hb2, hbel⟩ := hrel
    by_cases hlt : k < 8
    · have hT := table_to ht hbel
      have hll : (mix (colsOf f) (zeros 8) k).length = 8 := by rw [mix_length (by simp [colsOf, zeros])]; simp [zeros]
      have hc1 := hb2.cell_some (k := k) (bytesV_at (by omega))
      generalize (mix (colsOf f) (zeros 8) k)[k]'(by omega) = old at hc1
      have hf1 := hb2.free k
      have HB1 : Hid (Blk wr w.heap.size 143 (bytesV (zeros 8))) := hb1
      have HB2 : Hid (Blk wr (w.heap.size + 1) 143 (bytesV (mix (colsOf f) (zeros 8) k))) := hb2
      obtain ⟨p, hp⟩ : ∃ p, p = 2 ^ k := ⟨_, rfl⟩
      have hpb : p < 256 := by rw [hp]; exact Gf.two_lt k hlt
      have ep : (2 : Int) ^ k = (p : Int) := by rw [hp]; simp
      have HP : Hid (p = 2 ^ k) := hp
      clear hb1 hb2 hll hp
      go_wp2_with fail
      refine (mul_any f p hf hpb _ hT).mono ?_
      rintro e w' ⟨rfl, rfl⟩
      clear hT
      go_wp2
      go_roundw
      case rel =>
        refine ⟨k + 1, by omega, by go_num, ?_, ?_, ?_⟩
        · exact HB1.out.other (by show _ ≠ w.heap.size + 1; omega) _
        · refine (HB2.out.set k _).eq ?_
          rw [bytesV_set, ← mix_set (k := k) (new := colsOf f) (old := zeros 8) (by simp [colsOf, zeros]) (by simpa [zeros] using hlt), HP.out]
          simp [colsOf]
        · exact hbel.setCell (by show _ ≤ w.heap.size + 1; omega) _
      case measure => simp [intOf]; omega
    · obtain rfl : k = 8 := by omega
      have e := mix_all (new := colsOf f) (old := zeros 8) (by simp [colsOf, zeros])
      rw [show (zeros 8).length = 8 from rfl] at e
      rw [e] at hb2
      have HS : Hid ((Tryd.prog.info? 143).map (·.size) = some (bytesV (colsOf f)).toArray.size) := by show _ = _; rw [infoCols]; simp [colsOf]
      have HB1 : Hid (Blk wr w.heap.size 143 (bytesV (zeros 8))) := hb1
      have HB2 : Hid (Blk wr (w.heap.size + 1) 143 (bytesV (colsOf f))) := hb2
      clear hb1 hb2 e
      go_wp2_with (first | refine wpList_load_row rfl 143 _ rfl (w.heap.size + 1) rfl 143 _ _ _ HB2.out Tryd.underlying143 rfl HS.out ?_ | refine wpList_store_row rfl 143 _ _ rfl w.heap.size _ rfl rfl 143 _ HB1.out HS.out (by simp [colsOf, zeros]) (bytesV_one _) ?_)
      have hr := HB1.out.row (bytesV (colsOf f)).toArray
      refine bodyPost_ret (v := .agg (bytesV (colsOf f)).toArray) (results_cell_row (p := 2) (ty := 143) (by kernel_rfl) _ _ w.heap.size 143 _ (0, 0) _ rfl hr Tryd.underlying143 rfl HS.out) rfl ⟨rfl, ?_⟩
      exact below_row hbel (Nat.le_refl _) _
end Go.Proofs.YtlnpppdffhibjaaDoor.Planes
