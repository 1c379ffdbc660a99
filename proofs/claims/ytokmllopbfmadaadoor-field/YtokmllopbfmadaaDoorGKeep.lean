import Derived.Test.YtokmllopbfmadaaDoorGNum
namespace Go.Proofs.YtokmllopbfmadaaDoor.FieldWalks
open Go.RowKit

set_option maxRecDepth 100000 in
theorem pick_any (c : Int) (w : World) (h1 : -9223372036854775808 ≤ c) (h2 : c ≤ 9223372036854775807) :
    Calls Tryd.prog 19 #[.int .i64 c, .int .i64 256] w fun e w' => ∃ p : Nat, p < 256 ∧ e = .returned (.int .i64 p) ∧ w' = w := by
  by_cases h : c < 0
  · go_enter Tryd.func19, Tryd.ntmps19
    go_wp2
    go_ret
    have e : -(c + 1).tmod 256 = (-(c + 1)) % 256 := by rw [← Int.neg_tmod, Int.tmod_eq_emod_of_nonneg (by omega)]
    refine ⟨((-(c + 1)) % 256).toNat, by omega, ?_, rfl⟩
    show Ending.returned (.int .i64 (-(c + 1).tmod 256)) = _
    rw [e, Int.toNat_of_nonneg (by omega)]
  · go_enter Tryd.func19, Tryd.ntmps19
    go_wp2
    go_ret
    refine ⟨(c % 256).toNat, by omega, ?_, rfl⟩
    show Ending.returned (.int .i64 (c % 256)) = _
    rw [Int.toNat_of_nonneg (by omega)]

set_option maxRecDepth 100000 in
theorem kmul_any (a b : Nat) (ha : a < 256) (hb : b < 256) (w : World) (ht : Table w) :
    Calls Tryd.prog 20 #[.int .i64 a, .int .i64 b] w fun e w' => e = .returned (.int .i64 (Gf.times a b : Nat)) ∧ w' = w := by
  go_enter Tryd.func20, Tryd.ntmps20
  go_wp2_with fail
  refine (wMul_byte a b ha hb _ ht).mono ?_
  rintro e w' ⟨rfl, rfl⟩
  go_wp2
  go_ret
  exact ⟨rfl, rfl⟩
set_option maxRecDepth 100000 in
theorem kinv_any (a : Nat) (ha : a < 256) (h0 : a ≠ 0) (w : World) (ht : Table w) :
    Calls Tryd.prog 21 #[.int .i64 a] w fun e w' => e = .returned (.int .i64 (Gf.inv a : Nat)) ∧ w' = w := by
  have HN : Hid (a ≠ 0) := h0
  clear h0
  go_enter Tryd.func21, Tryd.ntmps21
  go_wp2_with fail
  refine (wInv_byte a ha HN.out _ ht).mono ?_
  rintro e w' ⟨rfl, rfl⟩
  go_wp2
  go_ret
  exact ⟨rfl, rfl⟩
theorem kmul_comm (a b : Nat) (ha : a < 256) (hb : b < 256) (w : World) (ht : Table w) :
    Calls Tryd.prog 20 #[.int .i64 b, .int .i64 a] w fun e w' => e = .returned (.int .i64 (Gf.times a b : Nat)) ∧ w' = w := by
  rw [Gf.times_comm a b ha hb]; exact kmul_any b a hb ha w ht
theorem kmul_left (a b c : Nat) (ha : a < 256) (hb : b < 256) (hc : c < 256) (w : World) (ht : Table w) :
    Calls Tryd.prog 20 #[.int .i64 (Gf.times a b : Nat), .int .i64 c] w fun e w' => e = .returned (.int .i64 (Gf.times a (Gf.times b c) : Nat)) ∧ w' = w := by
  rw [← Gf.times_assoc a b c ha hb hc]; exact kmul_any _ c (Gf.times_lt _ _ ha) hc w ht
theorem kmul_apart (a b c : Nat) (ha : a < 256) (hb : b < 256) (hc : c < 256) (w : World) (ht : Table w) :
    Calls Tryd.prog 20 #[.int .i64 a, .int .i64 (bits .xor .i64 b c)] w fun e w' => e = .returned (.int .i64 (bits .xor .i64 (Gf.times a b : Nat) (Gf.times a c : Nat))) ∧ w' = w := by
  have l1 := Gf.times_lt a b ha
  have l2 := Gf.times_lt a c ha
  rw [Gf.i64_xor _ _ (by omega) (by omega), Gf.i64_xor _ _ (by omega) (by omega), ← Gf.times_xor_r a b c ha]
  exact kmul_any a _ ha (Gf.xor_lt hb hc) w ht
theorem kmul_one (a : Nat) (ha : a < 256) (w : World) (ht : Table w) :
    Calls Tryd.prog 20 #[.int .i64 a, .int .i64 1] w fun e w' => e = .returned (.int .i64 a) ∧ w' = w := by
  have := kmul_any a 1 ha (by omega) w ht
  rw [Gf.times_one a ha] at this; exact this
theorem kmul_zero (a : Nat) (ha : a < 256) (w : World) (ht : Table w) :
    Calls Tryd.prog 20 #[.int .i64 a, .int .i64 0] w fun e w' => e = .returned (.int .i64 0) ∧ w' = w := by
  have := kmul_any a 0 ha (by omega) w ht
  rw [Gf.times_zero a ha] at this; exact this
theorem kmul_two_hi (a : Nat) (ha : a < 256) (h : 255 < 2 * (a : Int)) (w : World) (ht : Table w) :
    Calls Tryd.prog 20 #[.int .i64 a, .int .i64 2] w fun e w' => e = .returned (.int .i64 (bits .xor .i64 (2 * (a : Int)) 285)) ∧ w' = w := by
  have := kmul_any a 2 ha (by omega) w ht
  rw [Gf.times_two a ha, ← Gf.dbl_yes a ha (by omega)] at this; exact this
theorem kmul_two_lo (a : Nat) (ha : a < 256) (h : ¬ 255 < 2 * (a : Int)) (w : World) (ht : Table w) :
    Calls Tryd.prog 20 #[.int .i64 a, .int .i64 2] w fun e w' => e = .returned (.int .i64 (2 * (a : Int))) ∧ w' = w := by
  have := kmul_any a 2 ha (by omega) w ht
  rw [Gf.times_two a ha, ← Gf.dbl_no a (by omega)] at this; exact this
theorem kmul_inv (a : Nat) (ha : a < 256) (h0 : a ≠ 0) (w : World) (ht : Table w) :
    Calls Tryd.prog 20 #[.int .i64 a, .int .i64 (Gf.inv a : Nat)] w fun e w' => e = .returned (.int .i64 1) ∧ w' = w := by
  have := kmul_any a _ ha (Gf.inv_lt a ha) w ht
  rw [Gf.inv_right a ha h0] at this; exact this

set_option maxRecDepth 100000 in
set_option maxHeartbeats 1000000 in
theorem field_any (a b c : Int) (w : World) (ht : Table w) (a1 : -9223372036854775808 ≤ a) (a2 : a ≤ 9223372036854775807) (b1 : -9223372036854775808 ≤ b) (b2 : b ≤ 9223372036854775807) (c1 : -9223372036854775808 ≤ c) (c2 : c ≤ 9223372036854775807) :
    Calls Tryd.prog 4 #[.int .i64 a, .int .i64 b, .int .i64 c] w fun e w' => e = .returned (.bool true) ∧ w' = w := by
  go_enter Tryd.func4, Tryd.ntmps4
  go_wp2_with fail
  refine (pick_any a _ a1 a2).mono ?_
  rintro e w' ⟨x, hx, rfl, rfl⟩
  go_wp2_with fail
  refine (pick_any b _ b1 b2).mono ?_
  rintro e w' ⟨y, hy, rfl, rfl⟩
  go_wp2_with fail
  refine (pick_any c _ c1 c2).mono ?_
  rintro e w' ⟨z, hz, rfl, rfl⟩
  clear a1 a2 b1 b2 c1 c2
  have hxy := Gf.times_lt x y hx
  have hip := Gf.inv_pos x hx
  have HP : Hid (x ≠ 0 → 0 < Gf.inv x) := hip
  clear hip
  go_wp2_with fail
  refine (kmul_any x y hx hy _ ht).mono ?_
  rintro e w' ⟨rfl, rfl⟩
  go_wp2_with fail
  refine (kmul_comm x y hx hy _ ht).mono ?_
  rintro e w' ⟨rfl, rfl⟩
  go_wp2_with fail
  refine (kmul_any y z hy hz _ ht).mono ?_
  rintro e w' ⟨rfl, rfl⟩
  go_wp2_with fail
  refine (kmul_any x z hx hz _ ht).mono ?_
  rintro e w' ⟨rfl, rfl⟩
  go_wp2_with fail
  refine (kmul_left x y z hx hy hz _ ht).mono ?_
  rintro e w' ⟨rfl, rfl⟩
  go_wp2_with fail
  refine (kmul_any x _ hx (Gf.times_lt _ _ hy) _ ht).mono ?_
  rintro e w' ⟨rfl, rfl⟩
  go_wp2_with fail
  refine (kmul_apart x y z hx hy hz _ ht).mono ?_
  rintro e w' ⟨rfl, rfl⟩
  go_wp2_with fail
  refine (kmul_one x hx _ ht).mono ?_
  rintro e w' ⟨rfl, rfl⟩
  go_wp2_with fail
  refine (kmul_zero x hx _ ht).mono ?_
  rintro e w' ⟨rfl, rfl⟩
  go_wp2_with fail
  by_cases h2 : 255 < 2 * (x : Int)
  · refine (kmul_two_hi x hx h2 _ ht).mono ?_
    rintro e w' ⟨rfl, rfl⟩
    have h0 : x ≠ 0 := by omega
    have hp := HP.out h0
    have hz0 : ((x : Int) == 0) = false := by rw [beq_eq_false_iff_ne]; omega
    go_wp2_with fail
    refine (kinv_any x hx h0 _ ht).mono ?_
    rintro e w' ⟨rfl, rfl⟩
    go_wp2_with fail
    refine (kmul_inv x hx h0 _ ht).mono ?_
    rintro e w' ⟨rfl, rfl⟩
    go_wp2
    go_ret
    exact ⟨rfl, rfl⟩
  · refine (kmul_two_lo x hx h2 _ ht).mono ?_
    rintro e w' ⟨rfl, rfl⟩
    by_cases h0 : x = 0
    · have hz0 : ((x : Int) == 0) = true := by rw [beq_iff_eq]; omega
      clear h0
      go_wp2_with fail
      refine (wInv_zero _).mono ?_
      rintro e w' ⟨rfl, rfl⟩
      go_wp2
      go_ret
      exact ⟨rfl, rfl⟩
    · have hp := HP.out h0
      have hz0 : ((x : Int) == 0) = false := by rw [beq_eq_false_iff_ne]; omega
      go_wp2_with fail
      refine (kinv_any x hx h0 _ ht).mono ?_
      rintro e w' ⟨rfl, rfl⟩
      go_wp2_with fail
      refine (kmul_inv x hx h0 _ ht).mono ?_
      rintro e w' ⟨rfl, rfl⟩
      go_wp2
      go_ret
      exact ⟨rfl, rfl⟩
end Go.Proofs.YtokmllopbfmadaaDoor.FieldWalks
