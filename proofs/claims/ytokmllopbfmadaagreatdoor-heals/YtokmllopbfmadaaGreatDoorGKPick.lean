import Derived.Test.YtokmllopbfmadaaGreatDoorGSpread
namespace Go.Proofs.YtokmllopbfmadaaGreatDoor.KeepW
open Go.RowKit Mem FieldWalks Tab ByTab Parts Ref

/-- Which of n things the raw number c speaks of. -/
def pickI (c : Int) (n : Nat) : Nat := if c < 0 then ((-(c + 1)) % (n : Int)).toNat else (c % (n : Int)).toNat
theorem pickI_lt (c : Int) (n : Nat) (h : 0 < n) : pickI c n < n := by
  have := Int.emod_lt_of_pos (-(c + 1)) (show (0 : Int) < n by omega)
  have := Int.emod_lt_of_pos c (show (0 : Int) < n by omega)
  have := Int.emod_nonneg (-(c + 1)) (show (n : Int) ≠ 0 by omega)
  have := Int.emod_nonneg c (show (n : Int) ≠ 0 by omega)
  unfold pickI; split <;> omega
theorem pickI_nat (k n : Nat) (h : k < n) : pickI k n = k := by
  unfold pickI
  rw [if_neg (by omega), Int.emod_eq_of_lt (by omega) (by omega)]; omega

end Go.Proofs.YtokmllopbfmadaaGreatDoor.KeepW
