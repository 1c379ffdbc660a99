import Derived.Test.YtmlnejlhgbonpaaDoorChecked
import Derived.Test.YtmlnejlhgbonpaaDoorSteps
import Derived.WalkKit
import Derived.ProofKit
import Derived.WalkLawsBesides
namespace Go.Proofs.YtmlnejlhgbonpaaDoor.FieldWalks
open Go.RowKit

set_option maxHeartbeats 400000 in
theorem product_any (a b : Nat) (ha : a < 256) (hb : b < 256) (w : World) :
    Calls Tryd.prog 69 #[.int .u8 a, .int .u8 b] w fun e w' => e = .returned (.int .u16 (Gf.prodTo a b 8 : Nat)) ∧ w' = w := by
  go_enter Tryd.func69, Tryd.ntmps69
  go_wp2
  go_loop [5, 7] (fun s i => ∃ k : Nat, k ≤ 8 ∧ i = .int .i64 k ∧ s = .int .u16 (Gf.prodTo a b k : Nat)) (fun _ i => 8 - (intOf i).toNat)
  case atStart => exact ⟨0, Nat.zero_le _, rfl, rfl⟩
  case round =>
    obtain ⟨k, hk, rfl, rfl⟩ := hrel
    by_cases hlt : k < 8
    · go_wp2
      all_goals
        go_round
        case rel => exact ⟨k + 1, by omega, by go_num, by first | exact Gf.prod_yes a b k ha hb hlt ‹_› | exact Gf.prod_no a b k hb ‹_›⟩
        case measure => simp [intOf]; omega
    · obtain rfl : k = 8 := by omega
      go_wp2
      go_ret
      exact ⟨rfl, rfl⟩

/-- The seven numbers of the table, in the cells of its block. -/
def Table (w : World) : Prop := ∀ k, k < 7 → w.cell? ⟨0, k, none⟩ = some (.int .u8 (Gf.high k : Nat))

set_option maxHeartbeats 400000 in
theorem remainder_any (p : Nat) (hp : p < 65536) (w : World) (ht : Table w) :
    Calls Tryd.prog 68 #[.int .u16 p] w fun e w' => e = .returned (.int .u8 (Gf.remTo p 7 : Nat)) ∧ w' = w := by
  go_enter Tryd.func68, Tryd.ntmps68
  go_wp2
  go_loop [3, 8] (fun s i => ∃ k : Nat, k ≤ 7 ∧ i = .int .i64 k ∧ s = .int .u8 (Gf.remTo p k : Nat)) (fun _ i => 7 - (intOf i).toNat)
  case atStart => exact ⟨0, Nat.zero_le _, rfl, Gf.rem_start p hp⟩
  case round =>
    obtain ⟨k, hk, rfl, rfl⟩ := hrel
    by_cases hlt : k < 7
    · have hc := ht k hlt
      go_wp2
      all_goals
        go_round
        case rel => exact ⟨k + 1, by omega, by go_num, by first | exact Gf.rem_yes p k hp hlt ‹_› | exact Gf.rem_no p k hp ‹_›⟩
        case measure => simp [intOf]; omega
    · obtain rfl : k = 7 := by omega
      go_wp2
      go_ret
      exact ⟨rfl, rfl⟩

set_option maxHeartbeats 400000 in
theorem mul_any (a b : Nat) (ha : a < 256) (hb : b < 256) (w : World) (ht : Table w) :
    Calls Tryd.prog 43 #[.int .u8 a, .int .u8 b] w fun e w' => e = .returned (.int .u8 (Gf.times a b : Nat)) ∧ w' = w := by
  have e : Gf.remTo (Gf.prodTo a b 8) 7 = Gf.times a b := Gf.mul_eq a b ha hb
  have HE : Hid (Gf.remTo (Gf.prodTo a b 8) 7 = Gf.times a b) := e
  clear e
  go_enter Tryd.func43, Tryd.ntmps43
  go_wp2_with fail
  refine (product_any a b ha hb _).mono ?_
  rintro e w' ⟨rfl, rfl⟩
  go_wp2_with fail
  refine (remainder_any _ (Gf.prodTo_lt a b 8 ha (Nat.le_refl _)) _ ht).mono ?_
  rintro e w' ⟨rfl, rfl⟩
  go_wp2
  go_ret
  rw [HE.out]
  exact ⟨rfl, rfl⟩

set_option maxHeartbeats 400000 in
theorem inv_any (a : Nat) (ha : a < 256) (w : World) (ht : Table w) :
    Calls Tryd.prog 44 #[.int .u8 a] w fun e w' => e = .returned (.int .u8 (Gf.inv a : Nat)) ∧ w' = w := by
  go_enter Tryd.func44, Tryd.ntmps44
  go_wp2
  go_loop [3, 4, 6] (fun s p i => ∃ k : Nat, k ≤ 7 ∧ i = .int .i64 k ∧ s = .int .u8 ((Gf.invTo a k).1 : Nat) ∧ p = .int .u8 ((Gf.invTo a k).2 : Nat)) (fun _ _ i => 7 - (intOf i).toNat)
  case atStart => exact ⟨0, Nat.zero_le _, rfl, rfl, rfl⟩
  case round =>
    obtain ⟨k, hk, rfl, rfl, rfl⟩ := hrel
    have hl := Gf.invTo_lt a k ha
    by_cases hlt : k < 7
    · go_wp2_with fail
      refine (mul_any _ _ hl.2 hl.2 _ ht).mono ?_
      rintro e w' ⟨rfl, rfl⟩
      go_wp2_with fail
      refine (mul_any _ _ hl.1 (Gf.times_lt _ _ hl.2) _ ht).mono ?_
      rintro e w' ⟨rfl, rfl⟩
      go_wp2
      go_round
      case rel => exact ⟨k + 1, by omega, by go_num, rfl, rfl⟩
      case measure => simp [intOf]; omega
    · obtain rfl : k = 7 := by omega
      go_wp2
      go_ret
      exact ⟨rfl, rfl⟩

set_option maxRecDepth 100000 in
set_option maxHeartbeats 400000 in
theorem times_any (a b : Nat) (ha : a < 256) (_hb : b < 256) (w : World) :
    Calls Tryd.prog 46 #[.int .i64 a, .int .i64 b] w fun e w' => e = .returned (.int .i64 (Gf.times a b : Nat)) ∧ w' = w := by
  go_enter Tryd.func46, Tryd.ntmps46
  go_wp2
  go_loop [5, 6] (fun s i => ∃ k : Nat, k ≤ 8 ∧ i = .int .i64 (7 - (k : Int)) ∧ s = .int .i64 (Gf.timesTo a b k : Nat)) (fun _ i => (intOf i + 1).toNat)
  case atStart => exact ⟨0, Nat.zero_le _, rfl, rfl⟩
  case round =>
    obtain ⟨k, hk, rfl, rfl⟩ := hrel
    have hl := Gf.timesTo_lt a b k ha
    by_cases hlt : k < 8
    · obtain ⟨m, hm⟩ : ∃ m : Nat, m = 7 - k := ⟨_, rfl⟩
      have em : (7 - (k : Int)) = (m : Int) := by omega
      have hm8 : m < 8 := by omega
      have HM : Hid (m = 7 - k) := hm
      rw [em]
      clear em hm
      have HS : Hid (Gf.timesTo a b (k + 1) = if b.testBit m then Gf.dbl (Gf.timesTo a b k) ^^^ a else Gf.dbl (Gf.timesTo a b k)) := by
        rw [HM.out]; rfl
      generalize Gf.timesTo a b k = t at *
      go_wp2
      all_goals
        go_round
        case rel =>
          refine ⟨k + 1, by omega, by have := HM.out; congr 1; omega, ?_⟩
          rw [HS.out]
          first
            | (rw [Gf.dbl_yes t hl ‹_›, Gf.i64_xor _ _ (Nat.lt_trans (Gf.dbl_lt t hl) (by omega)) (by omega), if_pos (by rw [← Gf.bit_i64]; assumption)])
            | (rw [Gf.dbl_yes t hl ‹_›, if_neg (by rw [← Gf.bit_i64]; simp only [Bool.not_eq_true]; assumption)])
            | (rw [Gf.dbl_no t ‹_›, Gf.i64_xor _ _ (Nat.lt_trans (Gf.dbl_lt t hl) (by omega)) (by omega), if_pos (by rw [← Gf.bit_i64]; assumption)])
            | (rw [Gf.dbl_no t ‹_›, if_neg (by rw [← Gf.bit_i64]; simp only [Bool.not_eq_true]; assumption)])
        case measure => simp [intOf]
    · obtain rfl : k = 8 := by omega
      go_wp2
      go_ret
      exact ⟨rfl, rfl⟩

set_option maxRecDepth 100000 in
set_option maxHeartbeats 400000 in
theorem over_any (a : Nat) (ha : a < 256) (h0 : a ≠ 0) (w : World) :
    Calls Tryd.prog 47 #[.int .i64 a] w fun e w' => e = .returned (.int .i64 (Gf.inv a : Nat)) ∧ w' = w := by
  have hi := Gf.inv_right a ha h0
  have hil := Gf.inv_lt a ha
  have hip := Gf.inv_pos a ha h0
  have HI : Hid (Gf.times a (Gf.inv a) = 1) := hi
  have HN : Hid (a ≠ 0) := h0
  clear hi h0
  go_enter Tryd.func47, Tryd.ntmps47
  go_wp2
  go_loop [3] (fun i => ∃ k : Nat, 1 ≤ k ∧ k ≤ Gf.inv a ∧ i = .int .i64 k) (fun i => 256 - (intOf i).toNat)
  case atStart => exact ⟨1, Nat.le_refl _, hip, rfl⟩
  case round =>
    obtain ⟨k, hk1, hk, rfl⟩ := hrel
    by_cases he : k = Gf.inv a
    · have ht : (((Gf.times a k : Nat) : Int) == 1) = true := by rw [he, HI.out]; rfl
      have HE : Hid (k = Gf.inv a) := he
      have hk2 : k < 256 := by omega
      clear he
      go_wp2_with fail
      refine (times_any a k ha hk2 _).mono ?_
      rintro e w' ⟨rfl, rfl⟩
      go_wp2
      go_ret
      rw [HE.out]
      exact ⟨rfl, rfl⟩
    · have hk2 : k < 256 := by omega
      have hk3 : k + 1 ≤ Gf.inv a := by omega
      have ht : (((Gf.times a k : Nat) : Int) == 1) = false := by
        rw [beq_eq_false_iff_ne]; intro h1
        exact he (Gf.inv_unique a k ha hk2 (by omega))
      clear he
      go_wp2_with fail
      refine (times_any a k ha hk2 _).mono ?_
      rintro e w' ⟨rfl, rfl⟩
      go_wp2
      go_round
      case rel => exact ⟨k + 1, by omega, hk3, by go_num⟩
      case measure => simp [intOf]; omega
end Go.Proofs.YtmlnejlhgbonpaaDoor.FieldWalks
