import Derived.Test.YtlnpppdffhibjaaDoorMoves
namespace Go.Proofs.YtlnpppdffhibjaaDoor.Planes
open Go.RowKit Mem FieldWalks Tab

theorem moved_step (f W n : Nat) (hW : W < 18446744073709551616) :
    Value.int .u64 (bits .xor .u64 (Gf.moved f W n : Nat) (IntKind.u64.wrap ((Gf.moves (Gf.times f (2 ^ n)) : Nat) * bits .and .u64 ((W : Int) / 2 ^ (8 * n)) 255))) = .int .u64 (Gf.moved f W (n + 1) : Nat) := by
  have hl : W / 2 ^ (8 * n) < 18446744073709551616 := Nat.lt_of_le_of_lt (Nat.div_le_self _ _) hW
  have e1 : bits .and .u64 ((W : Int) / 2 ^ (8 * n)) 255 = ((W / 2 ^ (8 * n) % 256 : Nat) : Int) := by
    rw [Gf.cast_shr, show (255 : Int) = ((255 : Nat) : Int) from rfl, u64_and_nat _ _ hl (by omega), nat_mask8]
  have hp : W / 2 ^ (8 * n) % 256 < 256 := Nat.mod_lt _ (by omega)
  have hm : Gf.moves (Gf.times f (2 ^ n)) * (W / 2 ^ (8 * n) % 256) < 18446744073709551616 := by
    rw [Gf.moves_mul _ _ hp]; exact Gf.bitsOf_lt 64 _
  rw [e1, Gf.moved]
  have e2 : IntKind.u64.wrap ((Gf.moves (Gf.times f (2 ^ n)) : Nat) * ((W / 2 ^ (8 * n) % 256 : Nat) : Int)) = ((Gf.moves (Gf.times f (2 ^ n)) * (W / 2 ^ (8 * n) % 256) : Nat) : Int) := by
    rw [← Int.natCast_mul, IntKind.wrap_u64]
    generalize Gf.moves (Gf.times f (2 ^ n)) * (W / 2 ^ (8 * n) % 256) = t at hm ⊢
    omega
  rw [e2, u64_xor_nat _ _ (Gf.moved_lt f W n) hm]

set_option maxRecDepth 100000 in
set_option maxHeartbeats 400000 in
theorem movePlanes_any (f W : Nat) (hW : W < 18446744073709551616) (w : World) :
    Calls Tryd.prog 107 #[.agg (wordsV (movesOf f)).toArray, .int .u64 W] w fun e w' => e = .returned (.int .u64 (Gf.moved f W 8 : Nat)) ∧ Below w.heap.size w w' := by
  have hn := Blk.new w (wordsV (movesOf f)).toArray 139
  have HN : Hid (Blk (w.alloc (.cells (wordsV (movesOf f)).toArray 139)) w.heap.size 139 (wordsV (movesOf f))) := hn
  have HW : Hid (W < 18446744073709551616) := hW
  clear hn hW
  go_enter Tryd.func107, Tryd.ntmps107
  go_wp2
  go_loop [5, 8] (fun s i => ∃ k : Nat, k ≤ 8 ∧ i = .int .i64 k ∧ s = .int .u64 (Gf.moved f W k : Nat)) (fun _ i => 8 - (intOf i).toNat)
  case atStart => exact ⟨0, Nat.zero_le _, rfl, rfl⟩
  case round =>
    obtain ⟨k, hk, rfl, rfl⟩ := hrel
    by_cases hlt : k < 8
    · have hc := HN.out.cell_some (k := k) (v := .int .u64 (Gf.moves (Gf.times f (2 ^ k)) : Nat)) (by rw [wordsV_at (by simp [movesOf]; omega)]; simp [movesOf])
      have HST : Hid _ := moved_step f W k HW.out
      generalize Gf.moves (Gf.times f (2 ^ k)) = mk at hc HST
      generalize Gf.moved f W k = old at HST ⊢
      go_wp2
      go_round
      case rel => exact ⟨k + 1, by omega, by go_num, HST.out⟩
      case measure => simp [intOf]; omega
    · obtain rfl : k = 8 := by omega
      go_wp2
      go_ret
      exact ⟨rfl, (Below.refl _ _).alloc (Nat.le_refl _) _⟩
end Go.Proofs.YtlnpppdffhibjaaDoor.Planes
