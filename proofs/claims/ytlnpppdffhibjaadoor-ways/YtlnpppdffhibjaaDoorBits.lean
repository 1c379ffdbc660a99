/- Numbers by their bits; words whose bits are those of eight bytes side by side. -/
import Derived.Test.YtlnpppdffhibjaaDoorSum
namespace Go.Proofs.YtlnpppdffhibjaaDoor.Gf

theorem one_testBit (i : Nat) : (1 : Nat).testBit i = decide (i = 0) := by
  rw [show (1 : Nat) = 2 ^ 0 from rfl, Nat.testBit_two_pow]; simp [eq_comm]
/-- The number whose first n bits are these. -/
def bitsOf : Nat → (Nat → Bool) → Nat
  | 0, _ => 0
  | n + 1, p => 2 ^ n * (if p n then 1 else 0) + bitsOf n p
theorem bitsOf_lt (n : Nat) (p : Nat → Bool) : bitsOf n p < 2 ^ n := by
  induction n with
  | zero => simp [bitsOf]
  | succ n ih => unfold bitsOf; rw [Nat.pow_succ]; split <;> omega
theorem bitsOf_testBit (n : Nat) (p : Nat → Bool) (j : Nat) : (bitsOf n p).testBit j = (decide (j < n) && p j) := by
  induction n with
  | zero => simp [bitsOf]
  | succ n ih =>
    unfold bitsOf
    rw [Nat.testBit_two_pow_mul_add _ (bitsOf_lt n p)]
    by_cases h : j < n
    · rw [if_pos h, ih]; simp [h, show j < n + 1 by omega]
    · rw [if_neg h]
      by_cases e : j = n
      · subst e; cases p j <;> simp
      · have h2 : ¬ j < n + 1 := by omega
        have h3 : j - n ≠ 0 := by omega
        simp only [h2, decide_false, Bool.false_and]
        split
        · rw [one_testBit]; simp; omega
        · simp
theorem eq_bitsOf {n x : Nat} {p : Nat → Bool} (hx : x < 2 ^ n) (h : ∀ j, j < n → x.testBit j = p j) : x = bitsOf n p := by
  apply Nat.eq_of_testBit_eq
  intro j
  rw [bitsOf_testBit]
  by_cases hj : j < n
  · simp [hj, h j hj]
  · rw [Nat.testBit_lt_two_pow (Nat.lt_of_lt_of_le hx (Nat.pow_le_pow_right (by omega) (by omega)))]; simp [hj]
theorem bitsOf_congr {n : Nat} {p q : Nat → Bool} (h : ∀ j, j < n → p j = q j) : bitsOf n p = bitsOf n q :=
  eq_bitsOf (bitsOf_lt n p) fun j hj => by rw [bitsOf_testBit]; simp [hj, h j hj]
theorem bitsOf_self {n x : Nat} (hx : x < 2 ^ n) : bitsOf n x.testBit = x := (eq_bitsOf hx fun _ _ => rfl).symm
theorem xor_bitsOf (n : Nat) (p q : Nat → Bool) : bitsOf n p ^^^ bitsOf n q = bitsOf n fun j => p j ^^ q j := by
  refine eq_bitsOf (Nat.xor_lt_two_pow (bitsOf_lt n p) (bitsOf_lt n q)) fun j hj => ?_
  rw [Nat.testBit_xor, bitsOf_testBit, bitsOf_testBit]; simp [hj]
theorem or_bit {n : Nat} {p q : Nat → Bool} {j : Nat} (b : Bool) (hj : j < n) (hq : ∀ i, i < n → q i = (p i || (decide (i = j) && b))) : bitsOf n p ||| (if b then 2 ^ j else 0) = bitsOf n q := by
  refine eq_bitsOf (Nat.or_lt_two_pow (bitsOf_lt n p) ?_) fun i hi => ?_
  · split
    · exact Nat.pow_lt_pow_right (by omega) hj
    · exact Nat.two_pow_pos n
  · rw [Nat.testBit_or, bitsOf_testBit, hq i hi]
    cases b
    · simp [hi]
    · simp only [if_true, Nat.testBit_two_pow, hi, decide_true, Bool.true_and, Bool.and_true]
      congr 1
      by_cases e : i = j
      · subst e; simp
      · simp [e, Ne.symm e]

/-- A word of eight digits of the base 256. -/
def digs (d : Nat → Nat) : Nat → Nat
  | 0 => 0
  | n + 1 => 2 ^ (8 * n) * d n + digs d n
theorem digs_lt (d : Nat → Nat) (hd : ∀ i, d i < 256) (n : Nat) : digs d n < 2 ^ (8 * n) := by
  induction n with
  | zero => simp [digs]
  | succ n ih =>
    unfold digs
    have e : 2 ^ (8 * (n + 1)) = 2 ^ (8 * n) * 256 := by rw [Nat.mul_add, Nat.pow_add]
    have h1 : 2 ^ (8 * n) * d n ≤ 2 ^ (8 * n) * 255 := Nat.mul_le_mul_left _ (by have := hd n; omega)
    rw [e]
    have : 2 ^ (8 * n) * 256 = 2 ^ (8 * n) * 255 + 2 ^ (8 * n) := by omega
    omega
theorem digs_testBit (d : Nat → Nat) (hd : ∀ i, d i < 256) (n j : Nat) (hj : j < 8 * n) : (digs d n).testBit j = (d (j / 8)).testBit (j % 8) := by
  induction n with
  | zero => omega
  | succ n ih =>
    unfold digs
    rw [Nat.testBit_two_pow_mul_add _ (digs_lt d hd n)]
    by_cases h : j < 8 * n
    · rw [if_pos h]; exact ih h
    · rw [if_neg h, show j / 8 = n by omega, show j % 8 = j - 8 * n by omega]
theorem digs_mul (d : Nat → Nat) (p n : Nat) : digs d n * p = digs (fun i => d i * p) n := by
  induction n with
  | zero => simp [digs]
  | succ n ih => unfold digs; rw [Nat.add_mul, ih, Nat.mul_assoc]

/-- The planes of eight bytes. -/
def planes (v : Nat → Nat) : Nat := bitsOf 64 fun j => (v (j % 8)).testBit (j / 8)
/-- The moves of one column. -/
def moves (c : Nat) : Nat := bitsOf 64 fun j => decide (j % 8 = 0) && c.testBit (j / 8)
theorem moves_digs (c : Nat) : moves c = digs (fun i => if c.testBit i then 1 else 0) 8 := by
  have hd : ∀ i, (if c.testBit i then 1 else 0) < 256 := by intro i; split <;> omega
  refine (eq_bitsOf (digs_lt _ hd 8) fun j hj => ?_).symm
  rw [digs_testBit _ hd 8 j hj]
  by_cases h : c.testBit (j / 8)
  · rw [if_pos h, one_testBit]; simp [h]
  · rw [if_neg h]; simp [h]
theorem moves_mul (c p : Nat) (hp : p < 256) : moves c * p = bitsOf 64 fun j => c.testBit (j / 8) && p.testBit (j % 8) := by
  rw [moves_digs, digs_mul]
  have hd : ∀ i, (if c.testBit i then 1 else 0) * p < 256 := by intro i; split <;> omega
  refine eq_bitsOf (digs_lt _ hd 8) fun j hj => ?_
  rw [digs_testBit _ hd 8 j hj]
  by_cases h : c.testBit (j / 8)
  · simp [h]
  · simp [h]
/-- A plane out of the planes. -/
theorem plane_at (v : Nat → Nat) (b : Nat) (hb : b < 8) (k : Nat) (hk : k < 8) : (planes v / 2 ^ (8 * b) % 256).testBit k = (v k).testBit b := by
  rw [show (256 : Nat) = 2 ^ 8 from rfl, Nat.testBit_mod_two_pow, Nat.testBit_div_two_pow, planes, bitsOf_testBit]
  rw [show (k + 8 * b) % 8 = k by omega, show (k + 8 * b) / 8 = b by omega]
  simp [hk, show k + 8 * b < 64 by omega]
/-- The sum of the moved planes, behind n of them. -/
def moved (f : Nat) (w : Nat) : Nat → Nat
  | 0 => 0
  | n + 1 => moved f w n ^^^ moves (times f (2 ^ n)) * (w / 2 ^ (8 * n) % 256)
theorem bitsOf_step (n : Nat) (p : Nat → Bool) : bitsOf (n + 1) p = bitsOf n p ^^^ (if p n then 2 ^ n else 0) := by
  refine (eq_bitsOf (n := n + 1) (p := p) ?_ fun j hj => ?_).symm
  · refine Nat.xor_lt_two_pow (Nat.lt_of_lt_of_le (bitsOf_lt n p) (Nat.pow_le_pow_right (by omega) (by omega))) ?_
    split
    · exact Nat.pow_lt_pow_right (by omega) (by omega)
    · exact Nat.two_pow_pos _
  · rw [Nat.testBit_xor, bitsOf_testBit]
    by_cases e : j = n
    · subst e; cases p j <;> simp
    · have : j < n := by omega
      have hne : ¬ n = j := by omega
      split <;> simp [this, hne]
theorem times_bits (f n : Nat) (hf : f < 256) (p : Nat → Bool) : times f (bitsOf (n + 1) p) = times f (bitsOf n p) ^^^ (if p n then times f (2 ^ n) else 0) := by
  rw [bitsOf_step, times_xor_r f _ _ hf]
  split
  · rfl
  · rw [show times f 0 = 0 from times_zero f hf]
theorem moved_bits (f : Nat) (hf : f < 256) (v : Nat → Nat) (n : Nat) (hn : n ≤ 8) :
    moved f (planes v) n = bitsOf 64 fun j => (times f (bitsOf n (v (j % 8)).testBit)).testBit (j / 8) := by
  induction n with
  | zero =>
    rw [moved]
    refine eq_bitsOf (n := 64) (Nat.two_pow_pos 64) fun j _ => ?_
    rw [bitsOf, times_zero f hf]; simp
  | succ n ih =>
    have hp : planes v / 2 ^ (8 * n) % 256 < 256 := Nat.mod_lt _ (by omega)
    rw [moved, ih (by omega), moves_mul _ _ hp, xor_bitsOf]
    refine bitsOf_congr fun j hj => ?_
    rw [plane_at v n (by omega) (j % 8) (by omega), times_bits f n hf, Nat.testBit_xor]
    congr 1
    cases (v (j % 8)).testBit n <;> simp
/-- ████ The moved planes are those of the products. ████ -/
theorem moved_planes (f : Nat) (hf : f < 256) (v : Nat → Nat) (hv : ∀ k, v k < 256) : moved f (planes v) 8 = planes fun k => times f (v k) := by
  rw [moved_bits f hf v 8 (Nat.le_refl _)]
  exact bitsOf_congr fun j _ => by rw [bitsOf_self (n := 8) (hv _)]
theorem planes_xor (u v : Nat → Nat) : planes u ^^^ planes v = planes fun k => u k ^^^ v k := by
  unfold planes
  rw [xor_bitsOf]
  exact bitsOf_congr fun j _ => by rw [Nat.testBit_xor]
theorem moved_lt (f w : Nat) (n : Nat) : moved f w n < 2 ^ 64 := by
  induction n with
  | zero => exact Nat.two_pow_pos _
  | succ n ih =>
    unfold moved
    refine Nat.xor_lt_two_pow ih ?_
    rw [moves_mul _ _ (Nat.mod_lt _ (by omega))]
    exact bitsOf_lt _ _
end Go.Proofs.YtlnpppdffhibjaaDoor.Gf
