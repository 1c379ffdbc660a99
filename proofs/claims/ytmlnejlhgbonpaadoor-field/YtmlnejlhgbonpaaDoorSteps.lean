/- The walk's own spellings of bit tests and sums, in plain numbers. -/
import Derived.Test.YtmlnejlhgbonpaaDoorGf
import Derived.Laws.BitsAllLaws
import Derived.Laws.ShiftsVarLaws
import Derived.Laws.Wrap64
namespace Go.Proofs.YtmlnejlhgbonpaaDoor.Gf

theorem cast_shr (b k : Nat) : (b : Int) / 2 ^ k = ((b / 2 ^ k : Nat) : Int) := by simp
theorem testBit_div (b k : Nat) : b.testBit k = decide (b / 2 ^ k % 2 = 1) := by
  rw [Nat.testBit_eq_decide_div_mod_eq]
theorem bit_u8 (b k : Nat) (hb : b < 256) : (bits .and .u8 ((b : Int) / 2 ^ k) 1 == 1) = b.testBit k := by
  have h : b / 2 ^ k < 256 := Nat.lt_of_le_of_lt (Nat.div_le_self _ _) hb
  rw [cast_shr, show (1 : Int) = ((1 : Nat) : Int) from rfl, u8_and_nat _ _ h (by omega), nat_mask1, testBit_div, Bool.eq_iff_iff]
  generalize b / 2 ^ k % 2 = t
  simp; omega
theorem bit_u16 (b k : Nat) (hb : b < 65536) : (bits .and .u16 ((b : Int) / 2 ^ k) 1 == 1) = b.testBit k := by
  have h : b / 2 ^ k < 65536 := Nat.lt_of_le_of_lt (Nat.div_le_self _ _) hb
  rw [cast_shr, show (1 : Int) = ((1 : Nat) : Int) from rfl, u16_and_nat _ _ h (by omega), nat_mask1, testBit_div, Bool.eq_iff_iff]
  generalize b / 2 ^ k % 2 = t
  simp; omega
theorem prod_yes (a b k : Nat) (ha : a < 256) (hb : b < 256) (hk : k < 8) (h : (bits .and .u8 ((b : Int) / 2 ^ k) 1 == 1) = true) :
    Value.int .u16 (bits .xor .u16 (prodTo a b k : Nat) (IntKind.u16.wrap ((a : Int) * 2 ^ k))) = .int .u16 (prodTo a b (k + 1) : Nat) := by
  rw [bit_u8 b k hb] at h
  have hm := mulpow_lt a k ha hk
  have e : IntKind.u16.wrap ((a : Int) * 2 ^ k) = ((a * 2 ^ k : Nat) : Int) := by
    have e1 : ((a : Int) * 2 ^ k) = ((a * 2 ^ k : Nat) : Int) := by simp
    rw [e1, IntKind.wrap_u16]; omega
  rw [e, u16_xor_nat _ _ (prodTo_lt a b k ha (by omega)) hm, prodTo, if_pos h]
theorem prod_no (a b k : Nat) (hb : b < 256) (h : (bits .and .u8 ((b : Int) / 2 ^ k) 1 == 1) = false) :
    Value.int .u16 (prodTo a b k : Nat) = .int .u16 (prodTo a b (k + 1) : Nat) := by
  rw [bit_u8 b k hb] at h
  rw [prodTo, if_neg (by rw [h]; decide)]
theorem rem_start (p : Nat) (hp : p < 65536) : Value.int .u8 (bits .and .u16 (p : Int) 255 % 256) = .int .u8 (remTo p 0 : Nat) := by
  rw [show (255 : Int) = ((255 : Nat) : Int) from rfl, u16_and_nat _ _ hp (by omega), nat_mask8, remTo]
  congr 1; omega
theorem rem_yes (p k : Nat) (hp : p < 65536) (hk : k < 7) (h : (bits .and .u16 ((p : Int) / 2 ^ (8 + k)) 1 == 1) = true) :
    Value.int .u8 (bits .xor .u8 (remTo p k : Nat) (high k : Nat)) = .int .u8 (remTo p (k + 1) : Nat) := by
  rw [bit_u16 p (8 + k) hp] at h
  rw [u8_xor_nat _ _ (remTo_lt p k (by omega)) (high_lt k hk), remTo, if_pos h]
theorem rem_no (p k : Nat) (hp : p < 65536) (h : (bits .and .u16 ((p : Int) / 2 ^ (8 + k)) 1 == 1) = false) :
    Value.int .u8 (remTo p k : Nat) = .int .u8 (remTo p (k + 1) : Nat) := by
  rw [bit_u16 p (8 + k) hp] at h
  rw [remTo, if_neg (by rw [h]; decide)]
theorem i64_xor (a b : Nat) (ha : a < 1073741824) (hb : b < 1073741824) : bits .xor .i64 (a : Int) (b : Int) = ((a ^^^ b : Nat) : Int) := by
  have hx : a ^^^ b < 2 ^ 30 := Nat.xor_lt_two_pow (by omega) (by omega)
  show IntKind.i64.wrap ((BitVec.ofInt 64 (a : Int) ^^^ BitVec.ofInt 64 (b : Int)).toNat : Int) = _
  rw [BitVec.toNat_xor, ofInt_u64 a (by omega), ofInt_u64 b (by omega)]
  simp [IntKind.wrap, IntKind.bits, IntKind.signed]
  omega
theorem bit_i64 (b m : Nat) : (((b : Int) / 2 ^ m).tmod 2 == 1) = b.testBit m := by
  rw [cast_shr, testBit_div, Bool.eq_iff_iff]
  generalize b / 2 ^ m = t
  rw [Int.tmod_eq_emod_of_nonneg (by omega)]
  simp; omega
theorem dbl_yes (t : Nat) (ht : t < 256) (h : 256 ≤ 2 * (t : Int)) : bits .xor .i64 (2 * (t : Int)) 285 = (dbl t : Nat) := by
  have e : (2 * (t : Int)) = ((2 * t : Nat) : Int) := by omega
  rw [e, show (285 : Int) = ((285 : Nat) : Int) from rfl, i64_xor _ _ (by omega) (by omega), dbl, if_pos (by omega)]
theorem dbl_no (t : Nat) (h : 2 * (t : Int) < 256) : 2 * (t : Int) = (dbl t : Nat) := by
  rw [dbl, if_neg (by omega)]; omega
end Go.Proofs.YtmlnejlhgbonpaaDoor.Gf
