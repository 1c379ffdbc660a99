import Derived.Test.YtmlnejlhgbonpaaDoorNum
namespace Go.Proofs.YtmlnejlhgbonpaaDoor.FieldWalks
open Go.RowKit

/-- Is it a byte? -/
def byteB (a : Int) : Bool := decide (0 ≤ a ∧ a < 256)
theorem byteB_nat (a : Nat) (h : a < 256) : byteB a = true := by simp [byteB]; omega

theorem isByte_any (a : Int) (w : World) : Calls Tryd.prog 42 #[.int .i64 a] w fun e w' => e = .returned (.bool (byteB a)) ∧ w' = w := by
  have hb : byteB a = (decide (0 ≤ a) && decide (a ≤ 255)) := by
    rw [byteB, ← Bool.decide_and, decide_eq_decide]; omega
  rw [hb]
  clear hb
  by_cases h0 : 0 ≤ a
  · go_enter Tryd.func42, Tryd.ntmps42
    go_wp2
    go_ret
    exact ⟨by simp [h0], rfl⟩
  · go_enter Tryd.func42, Tryd.ntmps42
    go_wp2
    go_ret
    exact ⟨by simp; omega, rfl⟩
theorem byteOf_any (a : Int) (w : World) : Calls Tryd.prog 45 #[.int .i64 a] w fun e w' => e = .returned (.bool (byteB a)) ∧ w' = w := by
  have hb : byteB a = (decide (0 ≤ a) && decide (a < 256)) := by simp [byteB]
  rw [hb]
  clear hb
  by_cases h0 : 0 ≤ a
  · go_enter Tryd.func45, Tryd.ntmps45
    go_wp2
    go_ret
    exact ⟨by simp [h0], rfl⟩
  · go_enter Tryd.func45, Tryd.ntmps45
    go_wp2
    go_ret
    exact ⟨by simp; omega, rfl⟩

set_option maxRecDepth 100000 in
set_option maxHeartbeats 400000 in
theorem wMul_byte (a b : Nat) (ha : a < 256) (hb : b < 256) (w : World) (ht : Table w) :
    Calls Tryd.prog 13 #[.int .i64 a, .int .i64 b] w fun e w' => e = .returned (.tuple #[.int .i64 (Gf.times a b : Nat), .int .i64 0]) ∧ w' = w := by
  have h1 : byteB a = true := byteB_nat a ha
  have h2 : byteB b = true := byteB_nat b hb
  have hl := Gf.times_lt a b ha
  go_enter Tryd.func13, Tryd.ntmps13
  go_wp2_with fail
  refine (isByte_any _ _).mono ?_
  rintro e w' ⟨rfl, rfl⟩
  go_wp2_with fail
  refine (isByte_any _ _).mono ?_
  rintro e w' ⟨rfl, rfl⟩
  go_wp2_with fail
  refine (mul_any a b ha hb _ ht).mono ?_
  rintro e w' ⟨rfl, rfl⟩
  go_wp2
  go_ret2
  exact ⟨rfl, rfl⟩
set_option maxRecDepth 100000 in
set_option maxHeartbeats 400000 in
theorem wMul_none (a b : Int) (h : ¬ (byteB a = true ∧ byteB b = true)) (w : World) :
    Calls Tryd.prog 13 #[.int .i64 a, .int .i64 b] w fun e w' => e = .returned (.tuple #[.int .i64 0, .int .i64 1]) ∧ w' = w := by
  cases h1 : byteB a
  · clear h
    go_enter Tryd.func13, Tryd.ntmps13
    go_wp2_with fail
    refine (isByte_any _ _).mono ?_
    rintro e w' ⟨rfl, rfl⟩
    go_wp2
    go_ret2
    exact ⟨rfl, rfl⟩
  · have h2 : byteB b = false := by cases h2 : byteB b; rfl; exact absurd ⟨h1, h2⟩ h
    clear h
    go_enter Tryd.func13, Tryd.ntmps13
    go_wp2_with fail
    refine (isByte_any _ _).mono ?_
    rintro e w' ⟨rfl, rfl⟩
    go_wp2_with fail
    refine (isByte_any _ _).mono ?_
    rintro e w' ⟨rfl, rfl⟩
    go_wp2
    go_ret2
    exact ⟨rfl, rfl⟩
set_option maxRecDepth 100000 in
set_option maxHeartbeats 400000 in
theorem rMul_byte (a b : Nat) (ha : a < 256) (hb : b < 256) (w : World) :
    Calls Tryd.prog 16 #[.int .i64 a, .int .i64 b] w fun e w' => e = .returned (.tuple #[.int .i64 (Gf.times a b : Nat), .int .i64 0]) ∧ w' = w := by
  have h1 : byteB a = true := byteB_nat a ha
  have h2 : byteB b = true := byteB_nat b hb
  have hl := Gf.times_lt a b ha
  go_enter Tryd.func16, Tryd.ntmps16
  go_wp2_with fail
  refine (byteOf_any _ _).mono ?_
  rintro e w' ⟨rfl, rfl⟩
  go_wp2_with fail
  refine (byteOf_any _ _).mono ?_
  rintro e w' ⟨rfl, rfl⟩
  go_wp2_with fail
  refine (times_any a b ha hb _).mono ?_
  rintro e w' ⟨rfl, rfl⟩
  go_wp2
  go_ret2
  exact ⟨rfl, rfl⟩
set_option maxRecDepth 100000 in
set_option maxHeartbeats 400000 in
theorem rMul_none (a b : Int) (h : ¬ (byteB a = true ∧ byteB b = true)) (w : World) :
    Calls Tryd.prog 16 #[.int .i64 a, .int .i64 b] w fun e w' => e = .returned (.tuple #[.int .i64 0, .int .i64 1]) ∧ w' = w := by
  cases h1 : byteB a
  · clear h
    go_enter Tryd.func16, Tryd.ntmps16
    go_wp2_with fail
    refine (byteOf_any _ _).mono ?_
    rintro e w' ⟨rfl, rfl⟩
    go_wp2_with fail
    refine (byteOf_any _ _).mono ?_
    rintro e w' ⟨rfl, rfl⟩
    go_wp2
    go_ret2
    exact ⟨rfl, rfl⟩
  · have h2 : byteB b = false := by cases h2 : byteB b; rfl; exact absurd ⟨h1, h2⟩ h
    clear h
    go_enter Tryd.func16, Tryd.ntmps16
    go_wp2_with fail
    refine (byteOf_any _ _).mono ?_
    rintro e w' ⟨rfl, rfl⟩
    go_wp2_with fail
    refine (byteOf_any _ _).mono ?_
    rintro e w' ⟨rfl, rfl⟩
    go_wp2
    go_ret2
    exact ⟨rfl, rfl⟩

set_option maxRecDepth 100000 in
set_option maxHeartbeats 400000 in
theorem wInv_byte (a : Nat) (ha : a < 256) (h0 : a ≠ 0) (w : World) (ht : Table w) :
    Calls Tryd.prog 14 #[.int .i64 a] w fun e w' => e = .returned (.tuple #[.int .i64 (Gf.inv a : Nat), .int .i64 0]) ∧ w' = w := by
  have h1 : byteB a = true := byteB_nat a ha
  have hz : ((a : Int) == 0) = false := by rw [beq_eq_false_iff_ne]; omega
  have hl := Gf.inv_lt a ha
  clear h0
  go_enter Tryd.func14, Tryd.ntmps14
  go_wp2_with fail
  refine (isByte_any _ _).mono ?_
  rintro e w' ⟨rfl, rfl⟩
  go_wp2_with fail
  refine (inv_any a ha _ ht).mono ?_
  rintro e w' ⟨rfl, rfl⟩
  go_wp2
  go_ret2
  exact ⟨rfl, rfl⟩
set_option maxRecDepth 100000 in
theorem wInv_zero (w : World) :
    Calls Tryd.prog 14 #[.int .i64 0] w fun e w' => e = .returned (.tuple #[.int .i64 0, .int .i64 2]) ∧ w' = w := by
  have h1 : byteB 0 = true := by decide
  go_enter Tryd.func14, Tryd.ntmps14
  go_wp2_with fail
  refine (isByte_any _ _).mono ?_
  rintro e w' ⟨rfl, rfl⟩
  go_wp2
  go_ret2
  exact ⟨rfl, rfl⟩
set_option maxRecDepth 100000 in
theorem wInv_none (a : Int) (h : byteB a = false) (w : World) :
    Calls Tryd.prog 14 #[.int .i64 a] w fun e w' => e = .returned (.tuple #[.int .i64 0, .int .i64 1]) ∧ w' = w := by
  go_enter Tryd.func14, Tryd.ntmps14
  go_wp2_with fail
  refine (isByte_any _ _).mono ?_
  rintro e w' ⟨rfl, rfl⟩
  go_wp2
  go_ret2
  exact ⟨rfl, rfl⟩
set_option maxRecDepth 100000 in
set_option maxHeartbeats 400000 in
theorem rInv_byte (a : Nat) (ha : a < 256) (h0 : a ≠ 0) (w : World) :
    Calls Tryd.prog 17 #[.int .i64 a] w fun e w' => e = .returned (.tuple #[.int .i64 (Gf.inv a : Nat), .int .i64 0]) ∧ w' = w := by
  have h1 : byteB a = true := byteB_nat a ha
  have hz : ((a : Int) == 0) = false := by rw [beq_eq_false_iff_ne]; omega
  have hl := Gf.inv_lt a ha
  have HN : Hid (a ≠ 0) := h0
  clear h0
  go_enter Tryd.func17, Tryd.ntmps17
  go_wp2_with fail
  refine (byteOf_any _ _).mono ?_
  rintro e w' ⟨rfl, rfl⟩
  go_wp2_with fail
  refine (over_any a ha HN.out _).mono ?_
  rintro e w' ⟨rfl, rfl⟩
  go_wp2
  go_ret2
  exact ⟨rfl, rfl⟩
set_option maxRecDepth 100000 in
theorem rInv_zero (w : World) :
    Calls Tryd.prog 17 #[.int .i64 0] w fun e w' => e = .returned (.tuple #[.int .i64 0, .int .i64 2]) ∧ w' = w := by
  have h1 : byteB 0 = true := by decide
  go_enter Tryd.func17, Tryd.ntmps17
  go_wp2_with fail
  refine (byteOf_any _ _).mono ?_
  rintro e w' ⟨rfl, rfl⟩
  go_wp2
  go_ret2
  exact ⟨rfl, rfl⟩
set_option maxRecDepth 100000 in
theorem rInv_none (a : Int) (h : byteB a = false) (w : World) :
    Calls Tryd.prog 17 #[.int .i64 a] w fun e w' => e = .returned (.tuple #[.int .i64 0, .int .i64 1]) ∧ w' = w := by
  go_enter Tryd.func17, Tryd.ntmps17
  go_wp2_with fail
  refine (byteOf_any _ _).mono ?_
  rintro e w' ⟨rfl, rfl⟩
  go_wp2
  go_ret2
  exact ⟨rfl, rfl⟩

/-- What Mul and Inv answer, and with which error: the program and the document's answer alike. -/
def mulV (a b : Int) : Int := if byteB a = true ∧ byteB b = true then (Gf.times a.toNat b.toNat : Nat) else 0
def mulE (a b : Int) : Int := if byteB a = true ∧ byteB b = true then 0 else 1
def invV (a : Int) : Int := if byteB a = true ∧ a ≠ 0 then (Gf.inv a.toNat : Nat) else 0
def invE (a : Int) : Int := if byteB a = true then (if a = 0 then 2 else 0) else 1
theorem byte_nat {a : Int} (h : byteB a = true) : ∃ n : Nat, n < 256 ∧ a = n := by
  have h' : 0 ≤ a ∧ a < 256 := of_decide_eq_true h
  exact ⟨a.toNat, by omega, by omega⟩
theorem wMul_any (a b : Int) (w : World) (ht : Table w) :
    Calls Tryd.prog 13 #[.int .i64 a, .int .i64 b] w fun e w' => e = .returned (.tuple #[.int .i64 (mulV a b), .int .i64 (mulE a b)]) ∧ w' = w := by
  by_cases h : byteB a = true ∧ byteB b = true
  · rw [mulV, mulE, if_pos h, if_pos h]
    obtain ⟨n, hn, rfl⟩ := byte_nat h.1
    obtain ⟨m, hm, rfl⟩ := byte_nat h.2
    exact wMul_byte n m hn hm w ht
  · rw [mulV, mulE, if_neg h, if_neg h]
    exact wMul_none a b h w
theorem rMul_any (a b : Int) (w : World) :
    Calls Tryd.prog 16 #[.int .i64 a, .int .i64 b] w fun e w' => e = .returned (.tuple #[.int .i64 (mulV a b), .int .i64 (mulE a b)]) ∧ w' = w := by
  by_cases h : byteB a = true ∧ byteB b = true
  · rw [mulV, mulE, if_pos h, if_pos h]
    obtain ⟨n, hn, rfl⟩ := byte_nat h.1
    obtain ⟨m, hm, rfl⟩ := byte_nat h.2
    exact rMul_byte n m hn hm w
  · rw [mulV, mulE, if_neg h, if_neg h]
    exact rMul_none a b h w
theorem wInv_any (a : Int) (w : World) (ht : Table w) :
    Calls Tryd.prog 14 #[.int .i64 a] w fun e w' => e = .returned (.tuple #[.int .i64 (invV a), .int .i64 (invE a)]) ∧ w' = w := by
  cases hb : byteB a
  · rw [invV, invE, if_neg (by rw [hb]; simp), if_neg (by rw [hb]; simp)]
    exact wInv_none a hb w
  · by_cases h0 : a = 0
    · subst h0
      exact wInv_zero w
    · rw [invV, invE, if_pos ⟨hb, h0⟩, if_pos hb, if_neg h0]
      obtain ⟨n, hn, rfl⟩ := byte_nat hb
      exact wInv_byte n hn (by omega) w ht
theorem rInv_any (a : Int) (w : World) :
    Calls Tryd.prog 17 #[.int .i64 a] w fun e w' => e = .returned (.tuple #[.int .i64 (invV a), .int .i64 (invE a)]) ∧ w' = w := by
  cases hb : byteB a
  · rw [invV, invE, if_neg (by rw [hb]; simp), if_neg (by rw [hb]; simp)]
    exact rInv_none a hb w
  · by_cases h0 : a = 0
    · subst h0
      exact rInv_zero w
    · rw [invV, invE, if_pos ⟨hb, h0⟩, if_pos hb, if_neg h0]
      obtain ⟨n, hn, rfl⟩ := byte_nat hb
      exact rInv_byte n hn (by omega) w

theorem wMul_ex (w : World) (ht : Table w) : Calls Tryd.prog 13 #[.int .i64 2, .int .i64 128] w fun e w' => e = .returned (.tuple #[.int .i64 29, .int .i64 0]) ∧ w' = w := by
  have := wMul_byte 2 128 (by omega) (by omega) w ht
  rw [show Gf.times 2 128 = 29 by decide +kernel] at this; exact this
theorem wInv_ex (w : World) (ht : Table w) : Calls Tryd.prog 14 #[.int .i64 2] w fun e w' => e = .returned (.tuple #[.int .i64 142, .int .i64 0]) ∧ w' = w := by
  have := wInv_byte 2 (by omega) (by omega) w ht
  rw [show Gf.inv 2 = 142 by decide +kernel] at this; exact this

set_option maxRecDepth 100000 in
set_option maxHeartbeats 1000000 in
theorem fields_any (a b : Int) (w : World) (ht : Table w) :
    Calls Tryd.prog 3 #[.int .i64 a, .int .i64 b] w fun e w' => e = .returned (.bool true) ∧ w' = w := by
  go_enter Tryd.func3, Tryd.ntmps3
  go_wp2_with fail
  refine (wMul_ex _ ht).mono ?_
  rintro e w' ⟨rfl, rfl⟩
  go_wp2_with fail
  refine (wInv_ex _ ht).mono ?_
  rintro e w' ⟨rfl, rfl⟩
  go_wp2_with fail
  refine (num_any _ _).mono ?_
  rintro e w' ⟨rfl, rfl⟩
  go_wp2_with fail
  refine (num_any _ _).mono ?_
  rintro e w' ⟨rfl, rfl⟩
  go_wp2_with fail
  refine (wMul_any _ _ _ ht).mono ?_
  rintro e w' ⟨rfl, rfl⟩
  go_wp2_with fail
  refine (rMul_any _ _ _).mono ?_
  rintro e w' ⟨rfl, rfl⟩
  go_wp2_with fail
  refine (wInv_any _ _ ht).mono ?_
  rintro e w' ⟨rfl, rfl⟩
  go_wp2_with fail
  refine (rInv_any _ _).mono ?_
  rintro e w' ⟨rfl, rfl⟩
  go_wp2_with fail
  refine (num_any _ _).mono ?_
  rintro e w' ⟨rfl, rfl⟩
  go_wp2_with fail
  refine (num_any _ _).mono ?_
  rintro e w' ⟨rfl, rfl⟩
  go_wp2
  go_ret
  exact ⟨rfl, rfl⟩
end Go.Proofs.YtmlnejlhgbonpaaDoor.FieldWalks
