import Derived.Test.YtokmllopbfmadabDoorGChecks
namespace Go.Proofs.YtokmllopbfmadabDoor.KeepW
open Go.RowKit Mem FieldWalks Tab ByTab Parts Ref

/-- Which of n things the raw number c speaks of. -/
def pickI (c : Int) (n : Nat) : Nat := if c < 0 then ((-(c + 1)) % (n : Int)).toNat else (c % (n : Int)).toNat
theorem pickI_lt (c : Int) (n : Nat) (h : 0 < n) : pickI c n < n := by
  have := Int.emod_lt_of_pos (-(c + 1)) (show (0 : Int) < n by omega)
  have := Int.emod_lt_of_pos c (show (0 : Int) < n by omega)
  have := Int.emod_nonneg (-(c + 1)) (show (n : Int) ≠ 0 by omega)
  have := Int.emod_nonneg c (show (n : Int) ≠ 0 by omega)
  unfold pickI; split <;> omega
theorem pickI_nat (k n : Nat) (h : k < n) : pickI k n = k := by
  unfold pickI
  rw [if_neg (by omega), Int.emod_eq_of_lt (by omega) (by omega)]; omega

set_option maxRecDepth 100000 in
theorem kpick_any (c : Int) (n : Nat) (w : World) (hn : 0 < n) (hn2 : n ≤ 1000) (h1 : -9223372036854775808 ≤ c) (h2 : c ≤ 9223372036854775807) :
    Calls Tryd.prog 7 #[.int .i64 c, .int .i64 n] w fun e w' => e = .returned (.int .i64 (pickI c n : Nat)) ∧ w' = w := by
  by_cases h : c < 0
  · have e0 : Hid (pickI c n = ((-(c + 1)) % (n : Int)).toNat) := if_pos h
    have hm := Int.emod_lt_of_pos (-(c + 1)) (show (0 : Int) < n by omega)
    have hm2 := Int.emod_nonneg (-(c + 1)) (show (n : Int) ≠ 0 by omega)
    have E : Hid (Int.tmod (-(c + 1)) (n : Int) = ((((-(c + 1)) % (n : Int)).toNat : Nat) : Int)) := by
      show _ = _
      rw [Int.tmod_eq_emod_of_nonneg (by omega)]; omega
    clear hm hm2
    go_enter Tryd.func7, Tryd.ntmps7
    go_wp2
    go_ret
    refine ⟨?_, rfl⟩
    rw [e0.out, ← E.out]
    first
      | rfl
      | (rw [Int.neg_tmod]; rfl)
  · have e0 : Hid (pickI c n = (c % (n : Int)).toNat) := if_neg h
    have hm := Int.emod_lt_of_pos c (show (0 : Int) < n by omega)
    have hm2 := Int.emod_nonneg c (show (n : Int) ≠ 0 by omega)
    have E : Hid (c % (n : Int) = (((c % (n : Int)).toNat : Nat) : Int)) := by show _ = _; omega
    clear hm hm2
    go_enter Tryd.func7, Tryd.ntmps7
    go_wp2
    go_ret
    refine ⟨?_, rfl⟩
    rw [e0.out, ← E.out]
    first
      | rfl
      | (rw [← Int.tmod_eq_emod_of_nonneg (by omega)]; rfl)
end Go.Proofs.YtokmllopbfmadabDoor.KeepW
