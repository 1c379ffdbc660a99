import Derived.KernelRfl
import Derived.Laws.BitsAllLaws
import Derived.Laws.ShiftsVarLaws
import Derived.Laws.Wrap64
/- The field of the document, in plain numbers: products bit by bit, sums by exclusive or. Nothing of the program. -/
namespace Go.Proofs.YtokmllopbfmadaaDoor.Gf

/-- Twice, by the document's polynomial. -/
def dbl (p : Nat) : Nat := if 256 ≤ 2 * p then (2 * p) ^^^ 285 else 2 * p
/-- The product as the document's answer reckons it: behind k rounds. -/
def timesTo (a b : Nat) : Nat → Nat
  | 0 => 0
  | k + 1 => if b.testBit (7 - k) then dbl (timesTo a b k) ^^^ a else dbl (timesTo a b k)
def times (a b : Nat) : Nat := timesTo a b 8
/-- The product of polynomials, as the program reckons it: behind k rounds. -/
def prodTo (a b : Nat) : Nat → Nat
  | 0 => 0
  | k + 1 => if b.testBit k then prodTo a b k ^^^ a * 2 ^ k else prodTo a b k
def high (k : Nat) : Nat := [29, 58, 116, 232, 205, 135, 19].getD k 0
/-- The remainder, as the program reckons it: behind k rounds. -/
def remTo (p : Nat) : Nat → Nat
  | 0 => p % 256
  | k + 1 => if p.testBit (8 + k) then remTo p k ^^^ high k else remTo p k
def mul (a b : Nat) : Nat := remTo (prodTo a b 8) 7

theorem xlc (a b c : Nat) : a ^^^ (b ^^^ c) = b ^^^ (a ^^^ c) := by
  rw [← Nat.xor_assoc, ← Nat.xor_assoc, Nat.xor_comm a b]
theorem xcl (a b : Nat) : a ^^^ (a ^^^ b) = b := by rw [← Nat.xor_assoc, Nat.xor_self, Nat.zero_xor]
theorem xor_lt {a b : Nat} (ha : a < 256) (hb : b < 256) : a ^^^ b < 256 := Nat.xor_lt_two_pow (n := 8) ha hb
theorem xor_lt16 {a b : Nat} (ha : a < 65536) (hb : b < 65536) : a ^^^ b < 65536 := Nat.xor_lt_two_pow (n := 16) ha hb

theorem dbl_lt : ∀ p, p < 256 → dbl p < 256 := by decide +kernel
theorem dbl_bit (p : Nat) (h : p < 256) : dbl p = (2 * p) ^^^ (if p.testBit 7 then 285 else 0) := by
  revert p; decide +kernel
theorem dbl_xor (p q : Nat) (hp : p < 256) (hq : q < 256) : dbl (p ^^^ q) = dbl p ^^^ dbl q := by
  rw [dbl_bit _ (xor_lt hp hq), dbl_bit p hp, dbl_bit q hq, Nat.testBit_xor]
  have e : 2 * (p ^^^ q) = 2 * p ^^^ 2 * q := by
    have := Nat.shiftLeft_xor_distrib (a := p) (b := q) (i := 1)
    simp only [Nat.shiftLeft_eq, Nat.pow_one] at this
    rw [Nat.mul_comm 2, Nat.mul_comm 2, Nat.mul_comm 2]; exact this
  rw [e]
  cases p.testBit 7 <;> cases q.testBit 7 <;> simp [Nat.xor_assoc, Nat.xor_comm, xlc]

theorem timesTo_lt (a b k : Nat) (ha : a < 256) : timesTo a b k < 256 := by
  induction k with
  | zero => simp [timesTo]
  | succ k ih => unfold timesTo; split
                 · exact xor_lt (dbl_lt _ ih) ha
                 · exact dbl_lt _ ih
theorem times_lt (a b : Nat) (ha : a < 256) : times a b < 256 := timesTo_lt a b 8 ha

theorem xor4 (a b c d : Nat) : (a ^^^ b) ^^^ (c ^^^ d) = (a ^^^ c) ^^^ (b ^^^ d) := by
  rw [Nat.xor_assoc, Nat.xor_assoc, xlc b c d]

theorem timesTo_xor_l (a a' b k : Nat) (ha : a < 256) (ha' : a' < 256) : timesTo (a ^^^ a') b k = timesTo a b k ^^^ timesTo a' b k := by
  induction k with
  | zero => simp [timesTo]
  | succ k ih =>
    unfold timesTo
    rw [ih, dbl_xor _ _ (timesTo_lt _ _ _ ha) (timesTo_lt _ _ _ ha')]
    split
    · exact xor4 _ _ _ _
    · rfl
theorem timesTo_xor_r (a b b' k : Nat) (ha : a < 256) : timesTo a (b ^^^ b') k = timesTo a b k ^^^ timesTo a b' k := by
  induction k with
  | zero => simp [timesTo]
  | succ k ih =>
    unfold timesTo
    rw [ih, dbl_xor _ _ (timesTo_lt _ _ _ ha) (timesTo_lt _ _ _ ha), Nat.testBit_xor]
    cases b.testBit (7 - k) <;> cases b'.testBit (7 - k) <;> simp [Nat.xor_assoc, Nat.xor_comm, xlc, xcl]
theorem times_xor_l (a a' b : Nat) (ha : a < 256) (ha' : a' < 256) : times (a ^^^ a') b = times a b ^^^ times a' b := timesTo_xor_l a a' b 8 ha ha'
theorem times_xor_r (a b b' : Nat) (ha : a < 256) : times a (b ^^^ b') = times a b ^^^ times a b' := timesTo_xor_r a b b' 8 ha

theorem prodTo_lt (a b k : Nat) (ha : a < 256) (hk : k ≤ 8) : prodTo a b k < 65536 := by
  induction k with
  | zero => simp [prodTo]
  | succ k ih =>
    unfold prodTo
    have h1 := ih (by omega)
    split
    · refine xor_lt16 h1 ?_
      have : 2 ^ k ≤ 2 ^ 7 := Nat.pow_le_pow_right (by omega) (by omega)
      have : a * 2 ^ k ≤ 255 * 2 ^ 7 := Nat.mul_le_mul (by omega) this
      omega
    · exact h1
theorem mulpow_lt (a k : Nat) (ha : a < 256) (hk : k < 8) : a * 2 ^ k < 65536 := by
  have : 2 ^ k ≤ 2 ^ 7 := Nat.pow_le_pow_right (by omega) (by omega)
  have : a * 2 ^ k ≤ 255 * 2 ^ 7 := Nat.mul_le_mul (by omega) this
  omega
theorem prodTo_xor_l (a a' b k : Nat) : prodTo (a ^^^ a') b k = prodTo a b k ^^^ prodTo a' b k := by
  induction k with
  | zero => simp [prodTo]
  | succ k ih =>
    unfold prodTo
    have e : (a ^^^ a') * 2 ^ k = a * 2 ^ k ^^^ a' * 2 ^ k := by
      have := Nat.shiftLeft_xor_distrib (a := a) (b := a') (i := k)
      simpa only [Nat.shiftLeft_eq] using this
    rw [ih, e]
    split
    · exact xor4 _ _ _ _
    · rfl
theorem prodTo_xor_r (a b b' k : Nat) : prodTo a (b ^^^ b') k = prodTo a b k ^^^ prodTo a b' k := by
  induction k with
  | zero => simp [prodTo]
  | succ k ih =>
    unfold prodTo
    rw [ih, Nat.testBit_xor]
    cases b.testBit k <;> cases b'.testBit k <;> simp [Nat.xor_assoc, Nat.xor_comm, xlc, xcl]
theorem high_lt : ∀ k, k < 7 → high k < 256 := by decide +kernel
theorem remTo_lt (p k : Nat) (hk : k ≤ 7) : remTo p k < 256 := by
  induction k with
  | zero => simp [remTo]; omega
  | succ k ih =>
    unfold remTo
    have h1 := ih (by omega)
    split
    · exact xor_lt h1 (high_lt k (by omega))
    · exact h1
theorem remTo_xor (p q k : Nat) : remTo (p ^^^ q) k = remTo p k ^^^ remTo q k := by
  induction k with
  | zero => simp only [remTo]; exact Nat.xor_mod_two_pow (n := 8)
  | succ k ih =>
    unfold remTo
    rw [ih, Nat.testBit_xor]
    cases p.testBit (8 + k) <;> cases q.testBit (8 + k) <;> simp [Nat.xor_assoc, Nat.xor_comm, xlc, xcl]
theorem mul_lt (a b : Nat) : mul a b < 256 := remTo_lt _ _ (Nat.le_refl _)
theorem mul_xor_l (a a' b : Nat) : mul (a ^^^ a') b = mul a b ^^^ mul a' b := by unfold mul; rw [prodTo_xor_l, remTo_xor]
theorem mul_xor_r (a b b' : Nat) : mul a (b ^^^ b') = mul a b ^^^ mul a b' := by unfold mul; rw [prodTo_xor_r, remTo_xor]

/-- Two sums-preserving functions that agree at the eight powers agree at every byte. -/
theorem ext (f g : Nat → Nat) (hf : ∀ x y, x < 256 → y < 256 → f (x ^^^ y) = f x ^^^ f y) (hg : ∀ x y, x < 256 → y < 256 → g (x ^^^ y) = g x ^^^ g y)
    (h : ∀ i, i < 8 → f (2 ^ i) = g (2 ^ i)) : ∀ x, x < 256 → f x = g x := by
  have z (u : Nat → Nat) (hu : ∀ x y, x < 256 → y < 256 → u (x ^^^ y) = u x ^^^ u y) : u 0 = 0 := by
    have := hu 0 0 (by omega) (by omega); simpa using this
  have key : ∀ n, n ≤ 8 → ∀ x, x < 2 ^ n → f x = g x := by
    intro n
    induction n with
    | zero => intro _ x hx; have : x = 0 := by simpa using hx
              subst this; rw [z f hf, z g hg]
    | succ n ih =>
      intro hn x hx
      by_cases hlt : x < 2 ^ n
      · exact ih (by omega) x hlt
      · have hp : 2 ^ (n + 1) = 2 ^ n + 2 ^ n := by rw [Nat.pow_succ]; omega
        have hb : 2 ^ n ≤ 2 ^ 7 := Nat.pow_le_pow_right (by omega) (by omega)
        have hr : x - 2 ^ n < 2 ^ n := by omega
        have e : x = 2 ^ n ^^^ (x - 2 ^ n) := by
          have h1 := Nat.two_pow_add_eq_or_of_lt hr 1
          have h2 : 2 ^ n ^^^ (x - 2 ^ n) = 2 ^ n ||| (x - 2 ^ n) := by
            apply Nat.eq_of_testBit_eq; intro i
            rw [Nat.testBit_xor, Nat.testBit_or, Nat.testBit_two_pow]
            by_cases hi : n = i
            · subst hi; rw [Nat.testBit_lt_two_pow hr]; simp
            · simp [hi]
          rw [h2]
          simp only [Nat.mul_one] at h1
          rw [← h1]; omega
        rw [e, hf _ _ (by omega) (by omega), hg _ _ (by omega) (by omega), h n (by omega), ih (by omega) _ hr]
  exact fun x hx => key 8 (Nat.le_refl _) x hx

theorem two_lt : ∀ i, i < 8 → 2 ^ i < 256 := by decide
theorem mul_basis : ∀ i, i < 8 → ∀ j, j < 8 → mul (2 ^ i) (2 ^ j) = times (2 ^ i) (2 ^ j) := by decide +kernel
/-- ████ The program's product is the document's. ████ -/
theorem mul_eq (a b : Nat) (ha : a < 256) (hb : b < 256) : mul a b = times a b := by
  refine ext (fun x => mul x b) (fun x => times x b) (fun x y _ _ => mul_xor_l x y b) (fun x y hx hy => times_xor_l x y b hx hy) (fun i hi => ?_) a ha
  exact ext (fun y => mul (2 ^ i) y) (fun y => times (2 ^ i) y) (fun x y _ _ => mul_xor_r _ x y) (fun x y _ _ => times_xor_r _ x y (two_lt i hi)) (fun j hj => mul_basis i hi j hj) b hb

theorem comm_basis : ∀ i, i < 8 → ∀ j, j < 8 → times (2 ^ i) (2 ^ j) = times (2 ^ j) (2 ^ i) := by decide +kernel
theorem times_comm (a b : Nat) (ha : a < 256) (hb : b < 256) : times a b = times b a := by
  refine ext (fun x => times x b) (fun x => times b x) (fun x y hx hy => times_xor_l x y b hx hy) (fun x y _ _ => times_xor_r _ x y hb) (fun i hi => ?_) a ha
  exact ext (fun y => times (2 ^ i) y) (fun y => times y (2 ^ i)) (fun x y _ _ => times_xor_r _ x y (two_lt i hi)) (fun x y hx hy => times_xor_l x y _ hx hy) (fun j hj => comm_basis i hi j hj) b hb

theorem assoc_basis : ∀ i, i < 8 → ∀ j, j < 8 → ∀ k, k < 8 → times (times (2 ^ i) (2 ^ j)) (2 ^ k) = times (2 ^ i) (times (2 ^ j) (2 ^ k)) := by decide +kernel
theorem times_assoc (a b c : Nat) (ha : a < 256) (hb : b < 256) (hc : c < 256) : times (times a b) c = times a (times b c) := by
  refine ext (fun x => times (times x b) c) (fun x => times x (times b c)) (fun x y hx hy => ?_) (fun x y hx hy => times_xor_l x y _ hx hy) (fun i hi => ?_) a ha
  · show times (times (x ^^^ y) b) c = _
    rw [times_xor_l x y b hx hy, times_xor_l _ _ _ (times_lt _ _ hx) (times_lt _ _ hy)]
  refine ext (fun y => times (times (2 ^ i) y) c) (fun y => times (2 ^ i) (times y c)) (fun x y hx hy => ?_) (fun x y hx hy => ?_) (fun j hj => ?_) b hb
  · show times (times (2 ^ i) (x ^^^ y)) c = _
    rw [times_xor_r _ x y (two_lt i hi), times_xor_l _ _ _ (times_lt _ _ (two_lt i hi)) (times_lt _ _ (two_lt i hi))]
  · show times (2 ^ i) (times (x ^^^ y) c) = _
    rw [times_xor_l x y c hx hy, times_xor_r _ _ _ (two_lt i hi)]
  refine ext (fun z => times (times (2 ^ i) (2 ^ j)) z) (fun z => times (2 ^ i) (times (2 ^ j) z)) (fun x y _ _ => times_xor_r _ x y (times_lt _ _ (two_lt i hi))) (fun x y hx hy => ?_) (fun k hk => assoc_basis i hi j hj k hk) c hc
  show times (2 ^ i) (times (2 ^ j) (x ^^^ y)) = _
  rw [times_xor_r _ x y (two_lt j hj), times_xor_r _ _ _ (two_lt i hi)]

theorem times_one : ∀ a, a < 256 → times a 1 = a := by decide +kernel
theorem one_times : ∀ a, a < 256 → times 1 a = a := by decide +kernel
theorem times_zero : ∀ a, a < 256 → times a 0 = 0 := by decide +kernel
theorem zero_times : ∀ a, a < 256 → times 0 a = 0 := by decide +kernel
theorem times_two : ∀ a, a < 256 → times a 2 = dbl a := by decide +kernel

/-- The powers and products of the inverse: behind k rounds, (inverse, power). -/
def invTo (a : Nat) : Nat → Nat × Nat
  | 0 => (1, a)
  | k + 1 => (times (invTo a k).1 (times (invTo a k).2 (invTo a k).2), times (invTo a k).2 (invTo a k).2)
def inv (a : Nat) : Nat := (invTo a 7).1
theorem invTo_lt (a k : Nat) (ha : a < 256) : (invTo a k).1 < 256 ∧ (invTo a k).2 < 256 := by
  induction k with
  | zero => exact ⟨by simp [invTo], by simpa [invTo] using ha⟩
  | succ k ih => exact ⟨times_lt _ _ ih.1, times_lt _ _ ih.2⟩
theorem inv_lt (a : Nat) (ha : a < 256) : inv a < 256 := (invTo_lt a 7 ha).1
theorem inv_right0 : ∀ a, a < 256 → a = 0 ∨ times a (inv a) = 1 := by decide +kernel
theorem inv_right (a : Nat) (ha : a < 256) (h : a ≠ 0) : times a (inv a) = 1 := (inv_right0 a ha).resolve_left h
theorem inv_pos (a : Nat) (ha : a < 256) (h : a ≠ 0) : 0 < inv a := by
  rcases Nat.eq_zero_or_pos (inv a) with h0 | h0
  · have := inv_right a ha h; rw [h0, times_zero a ha] at this; omega
  · exact h0
theorem inv_unique (a b : Nat) (ha : a < 256) (hb : b < 256) (h : times a b = 1) : b = inv a := by
  have h0 : a ≠ 0 := by intro e; rw [e, zero_times b hb] at h; omega
  have e1 : times (times (inv a) a) b = times (inv a) (times a b) := times_assoc _ _ _ (inv_lt a ha) ha hb
  rw [h, times_comm (inv a) a (inv_lt a ha) ha, inv_right a ha h0, one_times b hb, times_one _ (inv_lt a ha)] at e1
  exact e1
end Go.Proofs.YtokmllopbfmadaaDoor.Gf

/- The walk's own spellings of bit tests and sums, in plain numbers. -/
namespace Go.Proofs.YtokmllopbfmadaaDoor.Gf

theorem cast_shr (b k : Nat) : (b : Int) / 2 ^ k = ((b / 2 ^ k : Nat) : Int) := by simp
theorem testBit_div (b k : Nat) : b.testBit k = decide (b / 2 ^ k % 2 = 1) := by
  rw [Nat.testBit_eq_decide_div_mod_eq]
theorem bit_u8 (b k : Nat) (hb : b < 256) : (bits .and .u8 ((b : Int) / 2 ^ k) 1 == 1) = b.testBit k := by
  have h : b / 2 ^ k < 256 := Nat.lt_of_le_of_lt (Nat.div_le_self _ _) hb
  rw [cast_shr, show (1 : Int) = ((1 : Nat) : Int) from rfl, u8_and_nat _ _ h (by omega), nat_mask1, testBit_div, Bool.eq_iff_iff]
  generalize b / 2 ^ k % 2 = t
  simp; omega
theorem bit_u16 (b k : Nat) (hb : b < 65536) : (bits .and .u16 ((b : Int) / 2 ^ k) 1 == 1) = b.testBit k := by
  have h : b / 2 ^ k < 65536 := Nat.lt_of_le_of_lt (Nat.div_le_self _ _) hb
  rw [cast_shr, show (1 : Int) = ((1 : Nat) : Int) from rfl, u16_and_nat _ _ h (by omega), nat_mask1, testBit_div, Bool.eq_iff_iff]
  generalize b / 2 ^ k % 2 = t
  simp; omega
theorem prod_yes (a b k : Nat) (ha : a < 256) (hb : b < 256) (hk : k < 8) (h : (bits .and .u8 ((b : Int) / 2 ^ k) 1 == 1) = true) :
    Value.int .u16 (bits .xor .u16 (prodTo a b k : Nat) (IntKind.u16.wrap ((a : Int) * 2 ^ k))) = .int .u16 (prodTo a b (k + 1) : Nat) := by
  rw [bit_u8 b k hb] at h
  have hm := mulpow_lt a k ha hk
  have e : IntKind.u16.wrap ((a : Int) * 2 ^ k) = ((a * 2 ^ k : Nat) : Int) := by
    have e1 : ((a : Int) * 2 ^ k) = ((a * 2 ^ k : Nat) : Int) := by simp
    rw [e1, IntKind.wrap_u16]; omega
  rw [e, u16_xor_nat _ _ (prodTo_lt a b k ha (by omega)) hm, prodTo, if_pos h]
theorem prod_no (a b k : Nat) (hb : b < 256) (h : (bits .and .u8 ((b : Int) / 2 ^ k) 1 == 1) = false) :
    Value.int .u16 (prodTo a b k : Nat) = .int .u16 (prodTo a b (k + 1) : Nat) := by
  rw [bit_u8 b k hb] at h
  rw [prodTo, if_neg (by rw [h]; decide)]
theorem rem_start (p : Nat) (hp : p < 65536) : Value.int .u8 (bits .and .u16 (p : Int) 255 % 256) = .int .u8 (remTo p 0 : Nat) := by
  rw [show (255 : Int) = ((255 : Nat) : Int) from rfl, u16_and_nat _ _ hp (by omega), nat_mask8, remTo]
  congr 1; omega
theorem rem_yes (p k : Nat) (hp : p < 65536) (hk : k < 7) (h : (bits .and .u16 ((p : Int) / 2 ^ (8 + k)) 1 == 1) = true) :
    Value.int .u8 (bits .xor .u8 (remTo p k : Nat) (high k : Nat)) = .int .u8 (remTo p (k + 1) : Nat) := by
  rw [bit_u16 p (8 + k) hp] at h
  rw [u8_xor_nat _ _ (remTo_lt p k (by omega)) (high_lt k hk), remTo, if_pos h]
theorem rem_no (p k : Nat) (hp : p < 65536) (h : (bits .and .u16 ((p : Int) / 2 ^ (8 + k)) 1 == 1) = false) :
    Value.int .u8 (remTo p k : Nat) = .int .u8 (remTo p (k + 1) : Nat) := by
  rw [bit_u16 p (8 + k) hp] at h
  rw [remTo, if_neg (by rw [h]; decide)]
theorem i64_xor (a b : Nat) (ha : a < 1073741824) (hb : b < 1073741824) : bits .xor .i64 (a : Int) (b : Int) = ((a ^^^ b : Nat) : Int) := by
  have hx : a ^^^ b < 2 ^ 30 := Nat.xor_lt_two_pow (by omega) (by omega)
  show IntKind.i64.wrap ((BitVec.ofInt 64 (a : Int) ^^^ BitVec.ofInt 64 (b : Int)).toNat : Int) = _
  rw [BitVec.toNat_xor, ofInt_u64 a (by omega), ofInt_u64 b (by omega)]
  simp [IntKind.wrap, IntKind.bits, IntKind.signed]
  omega
theorem bit_i64 (b m : Nat) : (((b : Int) / 2 ^ m).tmod 2 == 1) = b.testBit m := by
  rw [cast_shr, testBit_div, Bool.eq_iff_iff]
  generalize b / 2 ^ m = t
  rw [Int.tmod_eq_emod_of_nonneg (by omega)]
  simp; omega
theorem dbl_yes (t : Nat) (ht : t < 256) (h : 256 ≤ 2 * (t : Int)) : bits .xor .i64 (2 * (t : Int)) 285 = (dbl t : Nat) := by
  have e : (2 * (t : Int)) = ((2 * t : Nat) : Int) := by omega
  rw [e, show (285 : Int) = ((285 : Nat) : Int) from rfl, i64_xor _ _ (by omega) (by omega), dbl, if_pos (by omega)]
theorem dbl_no (t : Nat) (h : 2 * (t : Int) < 256) : 2 * (t : Int) = (dbl t : Nat) := by
  rw [dbl, if_neg (by omega)]; omega
end Go.Proofs.YtokmllopbfmadaaDoor.Gf
