import Derived.KernelRfl
import Derived.Laws.BitsAllLaws
import Derived.Laws.ShiftsVarLaws
import Derived.Laws.Wrap64
/- The field of the document, in plain numbers: products bit by bit, sums by exclusive or. Nothing of the program. -/
namespace Go.Proofs.YtokmllopbfmadabDoor.Gf

/-- Twice, by the document's polynomial. -/
def dbl (p : Nat) : Nat := if 256 ≤ 2 * p then (2 * p) ^^^ 285 else 2 * p
/-- The product as the document's answer reckons it: behind k rounds. -/
def timesTo (a b : Nat) : Nat → Nat
  | 0 => 0
  | k + 1 => if b.testBit (7 - k) then dbl (timesTo a b k) ^^^ a else dbl (timesTo a b k)
def times (a b : Nat) : Nat := timesTo a b 8
/-- The product of polynomials, as the program reckons it: behind k rounds. -/
def prodTo (a b : Nat) : Nat → Nat
  | 0 => 0
  | k + 1 => if b.testBit k then prodTo a b k ^^^ a * 2 ^ k else prodTo a b k
def high (k : Nat) : Nat := [29, 58, 116, 232, 205, 135, 19].getD k 0
/-- The remainder, as the program reckons it: behind k rounds. -/
def remTo (p : Nat) : Nat → Nat
  | 0 => p % 256
  | k + 1 => if p.testBit (8 + k) then remTo p k ^^^ high k else remTo p k
def mul (a b : Nat) : Nat := remTo (prodTo a b 8) 7

theorem xlc (a b c : Nat) : a ^^^ (b ^^^ c) = b ^^^ (a ^^^ c) := by
  rw [← Nat.xor_assoc, ← Nat.xor_assoc, Nat.xor_comm a b]
theorem xcl (a b : Nat) : a ^^^ (a ^^^ b) = b := by rw [← Nat.xor_assoc, Nat.xor_self, Nat.zero_xor]
theorem xor_lt {a b : Nat} (ha : a < 256) (hb : b < 256) : a ^^^ b < 256 := Nat.xor_lt_two_pow (n := 8) ha hb
theorem xor_lt16 {a b : Nat} (ha : a < 65536) (hb : b < 65536) : a ^^^ b < 65536 := Nat.xor_lt_two_pow (n := 16) ha hb

theorem dbl_lt : ∀ p, p < 256 → dbl p < 256 := by decide +kernel
theorem dbl_bit (p : Nat) (h : p < 256) : dbl p = (2 * p) ^^^ (if p.testBit 7 then 285 else 0) := by
  revert p; decide +kernel
theorem dbl_xor (p q : Nat) (hp : p < 256) (hq : q < 256) : dbl (p ^^^ q) = dbl p ^^^ dbl q := by
  rw [dbl_bit _ (xor_lt hp hq), dbl_bit p hp, dbl_bit q hq, Nat.testBit_xor]
  have e : 2 * (p ^^^ q) = 2 * p ^^^ 2 * q := by
    have := Nat.shiftLeft_xor_distrib (a := p) (b := q) (i := 1)
    simp only [Nat.shiftLeft_eq, Nat.pow_one] at this
    rw [Nat.mul_comm 2, Nat.mul_comm 2, Nat.mul_comm 2]; exact this
  rw [e]
  cases p.testBit 7 <;> cases q.testBit 7 <;> simp [Nat.xor_assoc, Nat.xor_comm, xlc]

theorem timesTo_lt (a b k : Nat) (ha : a < 256) : timesTo a b k < 256 := by
  induction k with
  | zero => simp [timesTo]
  | succ k ih => unfold timesTo; split
                 · exact xor_lt (dbl_lt _ ih) ha
                 · exact dbl_lt _ ih
theorem times_lt (a b : Nat) (ha : a < 256) : times a b < 256 := timesTo_lt a b 8 ha

theorem xor4 (a b c d : Nat) : (a ^^^ b) ^^^ (c ^^^ d) = (a ^^^ c) ^^^ (b ^^^ d) := by
  rw [Nat.xor_assoc, Nat.xor_assoc, xlc b c d]

theorem timesTo_xor_l (a a' b k : Nat) (ha : a < 256) (ha' : a' < 256) : timesTo (a ^^^ a') b k = timesTo a b k ^^^ timesTo a' b k := by
  induction k with
  | zero => simp [timesTo]
  | succ k ih =>
    unfold timesTo
    rw [ih, dbl_xor _ _ (timesTo_lt _ _ _ ha) (timesTo_lt _ _ _ ha')]
    split
    · exact xor4 _ _ _ _
    · rfl
theorem timesTo_xor_r (a b b' k : Nat) (ha : a < 256) : timesTo a (b ^^^ b') k = timesTo a b k ^^^ timesTo a b' k := by
  induction k with
  | zero => simp [timesTo]
  | succ k ih =>
    unfold timesTo
    rw [ih, dbl_xor _ _ (timesTo_lt _ _ _ ha) (timesTo_lt _ _ _ ha), Nat.testBit_xor]
    cases b.testBit (7 - k) <;> cases b'.testBit (7 - k) <;> simp [Nat.xor_assoc, Nat.xor_comm, xlc, xcl]
theorem times_xor_l (a a' b : Nat) (ha : a < 256) (ha' : a' < 256) : times (a ^^^ a') b = times a b ^^^ times a' b := timesTo_xor_l a a' b 8 ha ha'
theorem times_xor_r (a b b' : Nat) (ha : a < 256) : times a (b ^^^ b') = times a b ^^^ times a b' := timesTo_xor_r a b b' 8 ha

theorem prodTo_lt (a b k : Nat) (ha : a < 256) (hk : k ≤ 8) : prodTo a b k < 65536 := by
  induction k with
  | zero => simp [prodTo]
  | succ k ih =>
    unfold prodTo
    have h1 := ih (by omega)
    split
    · refine xor_lt16 h1 ?_
      have : 2 ^ k ≤ 2 ^ 7 := Nat.pow_le_pow_right (by omega) (by omega)
      have : a * 2 ^ k ≤ 255 * 2 ^ 7 := Nat.mul_le_mul (by omega) this
      omega
    · exact h1
theorem mulpow_lt (a k : Nat) (ha : a < 256) (hk : k < 8) : a * 2 ^ k < 65536 := by
  have : 2 ^ k ≤ 2 ^ 7 := Nat.pow_le_pow_right (by omega) (by omega)
  have : a * 2 ^ k ≤ 255 * 2 ^ 7 := Nat.mul_le_mul (by omega) this
  omega
theorem prodTo_xor_l (a a' b k : Nat) : prodTo (a ^^^ a') b k = prodTo a b k ^^^ prodTo a' b k := by
  induction k with
  | zero => simp [prodTo]
  | succ k ih =>
    unfold prodTo
    have e : (a ^^^ a') * 2 ^ k = a * 2 ^ k ^^^ a' * 2 ^ k := by
      have := Nat.shiftLeft_xor_distrib (a := a) (b := a') (i := k)
      simpa only [Nat.shiftLeft_eq] using this
    rw [ih, e]
    split
    · exact xor4 _ _ _ _
    · rfl
theorem prodTo_xor_r (a b b' k : Nat) : prodTo a (b ^^^ b') k = prodTo a b k ^^^ prodTo a b' k := by
  induction k with
  | zero => simp [prodTo]
  | succ k ih =>
    unfold prodTo
    rw [ih, Nat.testBit_xor]
    cases b.testBit k <;> cases b'.testBit k <;> simp [Nat.xor_assoc, Nat.xor_comm, xlc, xcl]
theorem high_lt : ∀ k, k < 7 → high k < 256 := by decide +kernel
theorem remTo_lt (p k : Nat) (hk : k ≤ 7) : remTo p k < 256 := by
  induction k with
  | zero => simp [remTo]; omega
  | succ k ih =>
    unfold remTo
    have h1 := ih (by omega)
    split
    · exact xor_lt h1 (high_lt k (by omega))
    · exact h1
theorem remTo_xor (p q k : Nat) : remTo (p ^^^ q) k = remTo p k ^^^ remTo q k := by
  induction k with
  | zero => simp only [remTo]; exact Nat.xor_mod_two_pow (n := 8)
  | succ k ih =>
    unfold remTo
    rw [ih, Nat.testBit_xor]
    cases p.testBit (8 + k) <;> cases q.testBit (8 + k) <;> simp [Nat.xor_assoc, Nat.xor_comm, xlc, xcl]
theorem mul_lt (a b : Nat) : mul a b < 256 := remTo_lt _ _ (Nat.le_refl _)
theorem mul_xor_l (a a' b : Nat) : mul (a ^^^ a') b = mul a b ^^^ mul a' b := by unfold mul; rw [prodTo_xor_l, remTo_xor]
theorem mul_xor_r (a b b' : Nat) : mul a (b ^^^ b') = mul a b ^^^ mul a b' := by unfold mul; rw [prodTo_xor_r, remTo_xor]

/-- Two sums-preserving functions that agree at the eight powers agree at every byte. -/
theorem ext (f g : Nat → Nat) (hf : ∀ x y, x < 256 → y < 256 → f (x ^^^ y) = f x ^^^ f y) (hg : ∀ x y, x < 256 → y < 256 → g (x ^^^ y) = g x ^^^ g y)
    (h : ∀ i, i < 8 → f (2 ^ i) = g (2 ^ i)) : ∀ x, x < 256 → f x = g x := by
  have z (u : Nat → Nat) (hu : ∀ x y, x < 256 → y < 256 → u (x ^^^ y) = u x ^^^ u y) : u 0 = 0 := by
    have := hu 0 0 (by omega) (by omega); simpa using this
  have key : ∀ n, n ≤ 8 → ∀ x, x < 2 ^ n → f x = g x := by
    intro n
    induction n with
    | zero => intro _ x hx; have : x = 0 := by simpa using hx
              subst this; rw [z f hf, z g hg]
    | succ n ih =>
      intro hn x hx
      by_cases hlt : x < 2 ^ n
      · exact ih (by omega) x hlt
      · have hp : 2 ^ (n + 1) = 2 ^ n + 2 ^ n := by rw [Nat.pow_succ]; omega
        have hb : 2 ^ n ≤ 2 ^ 7 := Nat.pow_le_pow_right (by omega) (by omega)
        have hr : x - 2 ^ n < 2 ^ n := by omega
        have e : x = 2 ^ n ^^^ (x - 2 ^ n) := by
          have h1 := Nat.two_pow_add_eq_or_of_lt hr 1
          have h2 : 2 ^ n ^^^ (x - 2 ^ n) = 2 ^ n ||| (x - 2 ^ n) := by
            apply Nat.eq_of_testBit_eq; intro i
            rw [Nat.testBit_xor, Nat.testBit_or, Nat.testBit_two_pow]
            by_cases hi : n = i
            · subst hi; rw [Nat.testBit_lt_two_pow hr]; simp
            · simp [hi]
          rw [h2]
          simp only [Nat.mul_one] at h1
          rw [← h1]; omega
        rw [e, hf _ _ (by omega) (by omega), hg _ _ (by omega) (by omega), h n (by omega), ih (by omega) _ hr]
  exact fun x hx => key 8 (Nat.le_refl _) x hx

theorem two_lt : ∀ i, i < 8 → 2 ^ i < 256 := by decide
theorem mul_basis : ∀ i, i < 8 → ∀ j, j < 8 → mul (2 ^ i) (2 ^ j) = times (2 ^ i) (2 ^ j) := by decide +kernel
/-- ████ The program's product is the document's. ████ -/
theorem mul_eq (a b : Nat) (ha : a < 256) (hb : b < 256) : mul a b = times a b := by
  refine ext (fun x => mul x b) (fun x => times x b) (fun x y _ _ => mul_xor_l x y b) (fun x y hx hy => times_xor_l x y b hx hy) (fun i hi => ?_) a ha
  exact ext (fun y => mul (2 ^ i) y) (fun y => times (2 ^ i) y) (fun x y _ _ => mul_xor_r _ x y) (fun x y _ _ => times_xor_r _ x y (two_lt i hi)) (fun j hj => mul_basis i hi j hj) b hb

theorem comm_basis : ∀ i, i < 8 → ∀ j, j < 8 → times (2 ^ i) (2 ^ j) = times (2 ^ j) (2 ^ i) := by decide +kernel
theorem times_comm (a b : Nat) (ha : a < 256) (hb : b < 256) : times a b = times b a := by
  refine ext (fun x => times x b) (fun x => times b x) (fun x y hx hy => times_xor_l x y b hx hy) (fun x y _ _ => times_xor_r _ x y hb) (fun i hi => ?_) a ha
  exact ext (fun y => times (2 ^ i) y) (fun y => times y (2 ^ i)) (fun x y _ _ => times_xor_r _ x y (two_lt i hi)) (fun x y hx hy => times_xor_l x y _ hx hy) (fun j hj => comm_basis i hi j hj) b hb

theorem assoc_basis : ∀ i, i < 8 → ∀ j, j < 8 → ∀ k, k < 8 → times (times (2 ^ i) (2 ^ j)) (2 ^ k) = times (2 ^ i) (times (2 ^ j) (2 ^ k)) := by decide +kernel
theorem times_assoc (a b c : Nat) (ha : a < 256) (hb : b < 256) (hc : c < 256) : times (times a b) c = times a (times b c) := by
  refine ext (fun x => times (times x b) c) (fun x => times x (times b c)) (fun x y hx hy => ?_) (fun x y hx hy => times_xor_l x y _ hx hy) (fun i hi => ?_) a ha
  · show times (times (x ^^^ y) b) c = _
    rw [times_xor_l x y b hx hy, times_xor_l _ _ _ (times_lt _ _ hx) (times_lt _ _ hy)]
  refine ext (fun y => times (times (2 ^ i) y) c) (fun y => times (2 ^ i) (times y c)) (fun x y hx hy => ?_) (fun x y hx hy => ?_) (fun j hj => ?_) b hb
  · show times (times (2 ^ i) (x ^^^ y)) c = _
    rw [times_xor_r _ x y (two_lt i hi), times_xor_l _ _ _ (times_lt _ _ (two_lt i hi)) (times_lt _ _ (two_lt i hi))]
  · show times (2 ^ i) (times (x ^^^ y) c) = _
    rw [times_xor_l x y c hx hy, times_xor_r _ _ _ (two_lt i hi)]
  refine ext (fun z => times (times (2 ^ i) (2 ^ j)) z) (fun z => times (2 ^ i) (times (2 ^ j) z)) (fun x y _ _ => times_xor_r _ x y (times_lt _ _ (two_lt i hi))) (fun x y hx hy => ?_) (fun k hk => assoc_basis i hi j hj k hk) c hc
  show times (2 ^ i) (times (2 ^ j) (x ^^^ y)) = _
  rw [times_xor_r _ x y (two_lt j hj), times_xor_r _ _ _ (two_lt i hi)]

theorem times_one : ∀ a, a < 256 → times a 1 = a := by decide +kernel
theorem one_times : ∀ a, a < 256 → times 1 a = a := by decide +kernel
theorem times_zero : ∀ a, a < 256 → times a 0 = 0 := by decide +kernel
theorem zero_times : ∀ a, a < 256 → times 0 a = 0 := by decide +kernel
theorem times_two : ∀ a, a < 256 → times a 2 = dbl a := by decide +kernel

/-- The powers and products of the inverse: behind k rounds, (inverse, power). -/
def invTo (a : Nat) : Nat → Nat × Nat
  | 0 => (1, a)
  | k + 1 => (times (invTo a k).1 (times (invTo a k).2 (invTo a k).2), times (invTo a k).2 (invTo a k).2)
def inv (a : Nat) : Nat := (invTo a 7).1
theorem invTo_lt (a k : Nat) (ha : a < 256) : (invTo a k).1 < 256 ∧ (invTo a k).2 < 256 := by
  induction k with
  | zero => exact ⟨by simp [invTo], by simpa [invTo] using ha⟩
  | succ k ih => exact ⟨times_lt _ _ ih.1, times_lt _ _ ih.2⟩
theorem inv_lt (a : Nat) (ha : a < 256) : inv a < 256 := (invTo_lt a 7 ha).1
theorem inv_right0 : ∀ a, a < 256 → a = 0 ∨ times a (inv a) = 1 := by decide +kernel
theorem inv_right (a : Nat) (ha : a < 256) (h : a ≠ 0) : times a (inv a) = 1 := (inv_right0 a ha).resolve_left h
theorem inv_pos (a : Nat) (ha : a < 256) (h : a ≠ 0) : 0 < inv a := by
  rcases Nat.eq_zero_or_pos (inv a) with h0 | h0
  · have := inv_right a ha h; rw [h0, times_zero a ha] at this; omega
  · exact h0
theorem inv_unique (a b : Nat) (ha : a < 256) (hb : b < 256) (h : times a b = 1) : b = inv a := by
  have h0 : a ≠ 0 := by intro e; rw [e, zero_times b hb] at h; omega
  have e1 : times (times (inv a) a) b = times (inv a) (times a b) := times_assoc _ _ _ (inv_lt a ha) ha hb
  rw [h, times_comm (inv a) a (inv_lt a ha) ha, inv_right a ha h0, one_times b hb, times_one _ (inv_lt a ha)] at e1
  exact e1
end Go.Proofs.YtokmllopbfmadabDoor.Gf

/- Sums of pieces times factors, in plain lists. -/
namespace Go.Proofs.YtokmllopbfmadabDoor.Gf

def addTo (f : Nat) (acc p : List Nat) : List Nat := List.zipWith (fun a x => a ^^^ times f x) acc p
/-- The sum of the first j pieces, each times its factor. -/
def sumTo (row : List Nat) (ps : List (List Nat)) (L : Nat) : Nat → List Nat
  | 0 => List.replicate L 0
  | j + 1 => addTo (row.getD j 0) (sumTo row ps L j) (ps.getD j [])
def Bytes (l : List Nat) : Prop := ∀ x, x ∈ l → x < 256
theorem Bytes.at {l : List Nat} (h : Bytes l) (k : Nat) (hk : k < l.length) : l[k] < 256 := h _ (List.getElem_mem hk)
theorem Bytes.getD {l : List Nat} (h : Bytes l) (k : Nat) : l.getD k 0 < 256 := by
  by_cases hk : k < l.length
  · simp [hk]; exact h.at k hk
  · simp [List.getElem?_eq_none (Nat.le_of_not_lt hk)]
theorem addTo_length {f : Nat} {acc p : List Nat} (h : p.length = acc.length) : (addTo f acc p).length = acc.length := by simp [addTo, h]
theorem addTo_bytes {f : Nat} {acc p : List Nat} (hf : f < 256) (ha : Bytes acc) : Bytes (addTo f acc p) := by
  intro x hx
  simp only [addTo, List.mem_iff_getElem, List.getElem_zipWith, List.length_zipWith] at hx
  obtain ⟨k, hk, rfl⟩ := hx
  exact xor_lt (ha.at k (by omega)) (times_lt _ _ hf)
theorem sumTo_length (row : List Nat) (ps : List (List Nat)) (L : Nat) (hl : ∀ j, (h : j < ps.length) → ps[j].length = L) : ∀ j, j ≤ ps.length → (sumTo row ps L j).length = L
  | 0, _ => by simp [sumTo]
  | j + 1, h => by
    have ih := sumTo_length row ps L hl j (by omega)
    have hj : (ps.getD j []).length = L := by simp [show j < ps.length by omega, hl j (by omega)]
    rw [sumTo, addTo_length (by omega), ih]
theorem sumTo_bytes (row : List Nat) (ps : List (List Nat)) (L : Nat) (hr : Bytes row) : ∀ j, Bytes (sumTo row ps L j)
  | 0 => by intro x hx; simp [sumTo] at hx; omega
  | j + 1 => addTo_bytes (hr.getD j) (sumTo_bytes row ps L hr j)
theorem sumTo_next (row : List Nat) (ps : List (List Nat)) (L j k : Nat) (hj : j < ps.length) (hjr : j < row.length) (hk : k < ps[j].length) (h1 : k < (sumTo row ps L j).length) (h2 : k < (sumTo row ps L (j + 1)).length) :
    (sumTo row ps L (j + 1))[k] = (sumTo row ps L j)[k] ^^^ times row[j] ps[j][k] := by
  simp only [sumTo, addTo, List.getElem_zipWith]
  have e1 : row.getD j 0 = row[j] := by simp [hjr]
  have e2 : ps.getD j [] = ps[j] := by simp [hj]
  simp only [e1, e2]
end Go.Proofs.YtokmllopbfmadabDoor.Gf

/- The check of the document, in plain numbers: what any change of four bytes in a row makes of it. Nothing of the program. -/
namespace Go.Proofs.YtokmllopbfmadabDoor.Crc
open Gf (Bytes xlc xcl xor4)

def P : Nat := 3988292384
/-- Moved down by one bit, and turned if a 1 fell out. -/
def stp (v : Nat) : Nat := if v % 2 = 1 then v / 2 ^^^ P else v / 2
def stpTo (v : Nat) : Nat → Nat
  | 0 => v
  | k + 1 => stp (stpTo v k)
/-- One byte. -/
def crcB (v b : Nat) : Nat := stpTo (v ^^^ b) 8
/-- All bytes. -/
def run (v : Nat) (l : List Nat) : Nat := l.foldl crcB v
def crc (l : List Nat) : Nat := 4294967295 - run 4294967295 l
/-- A number in four bytes. -/
def four (v : Nat) : List Nat := [v / 16777216 % 256, v / 65536 % 256, v / 256 % 256, v % 256]
/-- The check's four bytes. -/
def check (l : List Nat) : List Nat := four (crc l)

theorem div2_xor (a b : Nat) : (a ^^^ b) / 2 = a / 2 ^^^ b / 2 := by
  have := Nat.shiftRight_xor_distrib (a := a) (b := b) (i := 1)
  simpa only [Nat.shiftRight_eq_div_pow, Nat.pow_one] using this
theorem mod2_xor (a b : Nat) : (a ^^^ b) % 2 = (a % 2 + b % 2) % 2 := by
  have h : ∀ n : Nat, n % 2 = (n.testBit 0).toNat := fun n => by
    rw [Nat.testBit_zero]; rcases Nat.mod_two_eq_zero_or_one n with h | h <;> simp [h]
  rw [h, h a, h b, Nat.testBit_xor]
  cases a.testBit 0 <;> cases b.testBit 0 <;> rfl
theorem stp_xor (a b : Nat) : stp (a ^^^ b) = stp a ^^^ stp b := by
  unfold stp
  rw [mod2_xor, div2_xor]
  rcases Nat.mod_two_eq_zero_or_one a with ha | ha <;> rcases Nat.mod_two_eq_zero_or_one b with hb | hb <;> simp [ha, hb, Nat.xor_comm, xlc, xcl]
theorem stp_lt {v : Nat} (h : v < 4294967296) : stp v < 4294967296 := by
  unfold stp
  split
  · exact Nat.xor_lt_two_pow (n := 32) (by omega) (by decide)
  · omega
theorem stp_zero {a : Nat} (ha : a < 4294967296) (h : stp a = 0) : a = 0 := by
  unfold stp at h
  split at h
  · have e : (a / 2 ^^^ P).testBit 31 = true := by
      rw [Nat.testBit_xor, Nat.testBit_lt_two_pow (show a / 2 < 2 ^ 31 by omega)]; rfl
    rw [h] at e; simp at e
  · omega
theorem xor_zero {a b : Nat} (h : a ^^^ b = 0) : a = b := by
  have := congrArg (a ^^^ ·) h
  simp only [xcl, Nat.xor_zero] at this; exact this.symm
theorem xlt {a b : Nat} (ha : a < 4294967296) (hb : b < 4294967296) : a ^^^ b < 4294967296 := Nat.xor_lt_two_pow (n := 32) ha hb
theorem stp_inj {a b : Nat} (ha : a < 4294967296) (hb : b < 4294967296) (h : stp a = stp b) : a = b := by
  refine xor_zero (stp_zero (xlt ha hb) ?_)
  rw [stp_xor, h, Nat.xor_self]
theorem stpTo_lt {v : Nat} (h : v < 4294967296) : ∀ k, stpTo v k < 4294967296
  | 0 => h
  | k + 1 => stp_lt (stpTo_lt h k)
theorem stpTo_xor (a b : Nat) : ∀ k, stpTo (a ^^^ b) k = stpTo a k ^^^ stpTo b k
  | 0 => rfl
  | k + 1 => by unfold stpTo; rw [stpTo_xor a b k, stp_xor]
theorem stpTo_inj {a b : Nat} (ha : a < 4294967296) (hb : b < 4294967296) : ∀ k, stpTo a k = stpTo b k → a = b
  | 0, h => h
  | k + 1, h => stpTo_inj ha hb k (stp_inj (stpTo_lt ha k) (stpTo_lt hb k) h)
theorem stpTo_add (v j : Nat) : ∀ k, stpTo v (j + k) = stpTo (stpTo v j) k
  | 0 => rfl
  | k + 1 => by rw [← Nat.add_assoc]; unfold stpTo; rw [stpTo_add v j k]
theorem stp_even (v : Nat) : stp (2 * v) = v := by unfold stp; rw [if_neg (by omega)]; omega
theorem stpTo_shift (v : Nat) : ∀ k, stpTo (2 ^ k * v) k = v
  | 0 => by simp [stpTo]
  | k + 1 => by
    have : 2 ^ (k + 1) * v = 2 ^ k * (2 * v) := by rw [Nat.pow_succ, Nat.mul_assoc]
    rw [this]; unfold stpTo; rw [stpTo_shift (2 * v) k, stp_even]

theorem crcB_lt {v b : Nat} (h : v < 4294967296) (hb : b < 256) : crcB v b < 4294967296 := stpTo_lt (xlt h (by omega)) 8
theorem crcB_inj {u v b : Nat} (hu : u < 4294967296) (hv : v < 4294967296) (hb : b < 256) (h : crcB u b = crcB v b) : u = v := by
  have := stpTo_inj (xlt hu (show b < 4294967296 by omega)) (xlt hv (show b < 4294967296 by omega)) 8 h
  have := congrArg (b ^^^ ·) this
  simp only [Nat.xor_comm _ b, xcl] at this
  exact this
theorem run_lt {l : List Nat} (hb : Bytes l) : ∀ {v : Nat}, v < 4294967296 → run v l < 4294967296 := by
  induction l with
  | nil => intro v h; exact h
  | cons b l ih => intro v h; exact ih (fun x hx => hb x (by simp [hx])) (crcB_lt h (hb b (by simp)))
theorem run_append (v : Nat) (l m : List Nat) : run v (l ++ m) = run (run v l) m := by simp [run]
theorem run_inj {l : List Nat} (hb : Bytes l) : ∀ {u v : Nat}, u < 4294967296 → v < 4294967296 → run u l = run v l → u = v := by
  induction l with
  | nil => intro u v _ _ h; exact h
  | cons b l ih =>
    intro u v hu hv h
    have h8 : b < 256 := hb b (by simp)
    exact crcB_inj hu hv h8 (ih (fun x hx => hb x (by simp [hx])) (crcB_lt hu h8) (crcB_lt hv h8) h)
/-- Four bytes at once. -/
theorem run_four (u a b c d : Nat) : run u [a, b, c, d] = stpTo (u ^^^ (a ^^^ (256 * b ^^^ (65536 * c ^^^ 16777216 * d)))) 32 := by
  have e8 : ∀ x, stpTo (256 * x) 8 = x := fun x => stpTo_shift x 8
  have e16 : ∀ x, stpTo (65536 * x) 8 = 256 * x := fun x => by rw [show 65536 * x = 256 * (256 * x) by omega]; exact stpTo_shift (256 * x) 8
  have e24 : ∀ x, stpTo (16777216 * x) 8 = 65536 * x := fun x => by rw [show 16777216 * x = 256 * (65536 * x) by omega]; exact stpTo_shift (65536 * x) 8
  simp only [run, List.foldl_cons, List.foldl_nil, crcB]
  rw [show (32 : Nat) = 8 + (8 + (8 + 8)) from rfl, stpTo_add _ 8 (8 + (8 + 8)), stpTo_add _ 8 (8 + 8), stpTo_add _ 8 8]
  rw [← Nat.xor_assoc u a, stpTo_xor (u ^^^ a), stpTo_xor (256 * b), stpTo_xor (65536 * c), e8, e16, e24]
  rw [← Nat.xor_assoc (stpTo (u ^^^ a) 8) b, stpTo_xor (stpTo (u ^^^ a) 8 ^^^ b), stpTo_xor (256 * c), e8, e16]
  rw [← Nat.xor_assoc (stpTo (stpTo (u ^^^ a) 8 ^^^ b) 8) c, stpTo_xor (stpTo (stpTo (u ^^^ a) 8 ^^^ b) 8 ^^^ c), e8]
theorem low_xor (a x : Nat) (ha : a < 256) : a ^^^ 256 * x = a + 256 * x := by
  have := Nat.two_pow_add_eq_or_of_lt (i := 8) (b := a) ha x
  rw [Nat.add_comm] at this
  rw [show 256 * x = 2 ^ 8 * x from rfl, this]
  apply Nat.eq_of_testBit_eq
  intro i
  rw [Nat.testBit_xor, Nat.testBit_or, Nat.testBit_two_pow_mul]
  by_cases hi : 8 ≤ i
  · rw [Nat.testBit_lt_two_pow (Nat.lt_of_lt_of_le ha (show 2 ^ 8 ≤ 2 ^ i from Nat.pow_le_pow_right (by decide) hi))]; simp
  · simp [hi]
theorem mul256_xor (a b : Nat) : 256 * (a ^^^ b) = 256 * a ^^^ 256 * b := by
  have := Nat.shiftLeft_xor_distrib (a := a) (b := b) (i := 8)
  simp only [Nat.shiftLeft_eq] at this
  rw [Nat.mul_comm 256, Nat.mul_comm 256, Nat.mul_comm 256]; exact this
theorem word_four (a b c d : Nat) (ha : a < 256) (hb : b < 256) (hc : c < 256) : a ^^^ (256 * b ^^^ (65536 * c ^^^ 16777216 * d)) = a + 256 * b + 65536 * c + 16777216 * d := by
  rw [show 65536 * c = 256 * (256 * c) by omega, show 16777216 * d = 256 * (256 * (256 * d)) by omega, ← mul256_xor (256 * c), ← mul256_xor c, low_xor c d hc,
    ← mul256_xor b, low_xor b _ hb, low_xor a _ ha]
  omega
theorem four_inj {u a b c d a' b' c' d' : Nat} (hu : u < 4294967296) (ha : a < 256) (hb : b < 256) (hc : c < 256) (hd : d < 256) (ha' : a' < 256) (hb' : b' < 256) (hc' : c' < 256) (hd' : d' < 256)
    (h : run u [a, b, c, d] = run u [a', b', c', d']) : a = a' ∧ b = b' ∧ c = c' ∧ d = d' := by
  rw [run_four, run_four, word_four a b c d ha hb hc, word_four a' b' c' d' ha' hb' hc'] at h
  have := stpTo_inj (xlt hu (by omega)) (xlt hu (by omega)) 32 h
  have := congrArg (u ^^^ ·) this
  simp only [xcl] at this
  omega
theorem run_short {x y : List Nat} {u : Nat} (hu : u < 4294967296) (hx : Bytes x) (hy : Bytes y) (hl : x.length = y.length) (h4 : x.length ≤ 4) (h : run u x = run u y) : x = y := by
  have key : ∀ x' y' : List Nat, x'.length = 4 → y'.length = 4 → Bytes x' → Bytes y' → run u x' = run u y' → x' = y' := by
    intro x' y' h1 h2 b1 b2 h
    match x', y', h1, h2 with
    | [a, b, c, d], [a', b', c', d'], _, _ =>
      obtain ⟨rfl, rfl, rfl, rfl⟩ := four_inj hu (b1 a (by simp)) (b1 b (by simp)) (b1 c (by simp)) (b1 d (by simp)) (b2 a' (by simp)) (b2 b' (by simp)) (b2 c' (by simp)) (b2 d' (by simp)) h
      rfl
  have hz : Bytes (List.replicate (4 - x.length) 0) := fun z hz => by
    rw [List.mem_replicate] at hz; omega
  have hap : ∀ {l m : List Nat}, Bytes l → Bytes m → Bytes (l ++ m) := fun h1 h2 z hz => by
    rcases List.mem_append.1 hz with h | h
    · exact h1 z h
    · exact h2 z h
  have := key (x ++ List.replicate (4 - x.length) 0) (y ++ List.replicate (4 - x.length) 0) (by simp; omega) (by simp; omega) (hap hx hz) (hap hy hz) (by rw [run_append, run_append, h])
  exact List.append_cancel_right this
/-- What is changed within four bytes in a row changes the check. -/
theorem burst {p x y q : List Nat} (hp : Bytes p) (hx : Bytes x) (hy : Bytes y) (hq : Bytes q) (hl : x.length = y.length) (h4 : x.length ≤ 4) (h : crc (p ++ x ++ q) = crc (p ++ y ++ q)) : x = y := by
  have i : (4294967295 : Nat) < 4294967296 := by decide
  have hap : ∀ {l m : List Nat}, Bytes l → Bytes m → Bytes (l ++ m) := fun h1 h2 z hz => by
    rcases List.mem_append.1 hz with h | h
    · exact h1 z h
    · exact h2 z h
  have l1 := run_lt (hap (hap hp hx) hq) i
  have l2 := run_lt (hap (hap hp hy) hq) i
  have e : run 4294967295 (p ++ x ++ q) = run 4294967295 (p ++ y ++ q) := by unfold crc at h; omega
  rw [run_append, run_append, run_append, run_append] at e
  exact run_short (run_lt hp i) hx hy hl h4 (run_inj hq (run_lt hx (run_lt hp i)) (run_lt hy (run_lt hp i)) e)
theorem crc_lt {l : List Nat} : crc l < 4294967296 := by unfold crc; omega
theorem four_eq {u v : Nat} (hu : u < 4294967296) (hv : v < 4294967296) (h : four u = four v) : u = v := by
  simp only [four, List.cons.injEq, and_true] at h
  omega
theorem four_bytes (v : Nat) : Bytes (four v) := by
  intro x hx; simp only [four, List.mem_cons, List.not_mem_nil, or_false] at hx
  rcases hx with rfl | rfl | rfl | rfl <;> exact Nat.mod_lt _ (by decide)
theorem check_burst {p x y q : List Nat} (hp : Bytes p) (hx : Bytes x) (hy : Bytes y) (hq : Bytes q) (hl : x.length = y.length) (h4 : x.length ≤ 4) (h : check (p ++ x ++ q) = check (p ++ y ++ q)) : x = y :=
  burst hp hx hy hq hl h4 (four_eq crc_lt crc_lt h)
@[simp] theorem check_length (l : List Nat) : (check l).length = 4 := rfl
theorem check_bytes (l : List Nat) : Bytes (check l) := four_bytes _
end Go.Proofs.YtokmllopbfmadabDoor.Crc

/- The walk's own spellings of bit tests and sums, in plain numbers. -/
namespace Go.Proofs.YtokmllopbfmadabDoor.Gf

theorem cast_shr (b k : Nat) : (b : Int) / 2 ^ k = ((b / 2 ^ k : Nat) : Int) := by simp
theorem testBit_div (b k : Nat) : b.testBit k = decide (b / 2 ^ k % 2 = 1) := by
  rw [Nat.testBit_eq_decide_div_mod_eq]
theorem bit_u8 (b k : Nat) (hb : b < 256) : (bits .and .u8 ((b : Int) / 2 ^ k) 1 == 1) = b.testBit k := by
  have h : b / 2 ^ k < 256 := Nat.lt_of_le_of_lt (Nat.div_le_self _ _) hb
  rw [cast_shr, show (1 : Int) = ((1 : Nat) : Int) from rfl, u8_and_nat _ _ h (by omega), nat_mask1, testBit_div, Bool.eq_iff_iff]
  generalize b / 2 ^ k % 2 = t
  simp; omega
theorem bit_u16 (b k : Nat) (hb : b < 65536) : (bits .and .u16 ((b : Int) / 2 ^ k) 1 == 1) = b.testBit k := by
  have h : b / 2 ^ k < 65536 := Nat.lt_of_le_of_lt (Nat.div_le_self _ _) hb
  rw [cast_shr, show (1 : Int) = ((1 : Nat) : Int) from rfl, u16_and_nat _ _ h (by omega), nat_mask1, testBit_div, Bool.eq_iff_iff]
  generalize b / 2 ^ k % 2 = t
  simp; omega
theorem prod_yes (a b k : Nat) (ha : a < 256) (hb : b < 256) (hk : k < 8) (h : (bits .and .u8 ((b : Int) / 2 ^ k) 1 == 1) = true) :
    Value.int .u16 (bits .xor .u16 (prodTo a b k : Nat) (IntKind.u16.wrap ((a : Int) * 2 ^ k))) = .int .u16 (prodTo a b (k + 1) : Nat) := by
  rw [bit_u8 b k hb] at h
  have hm := mulpow_lt a k ha hk
  have e : IntKind.u16.wrap ((a : Int) * 2 ^ k) = ((a * 2 ^ k : Nat) : Int) := by
    have e1 : ((a : Int) * 2 ^ k) = ((a * 2 ^ k : Nat) : Int) := by simp
    rw [e1, IntKind.wrap_u16]; omega
  rw [e, u16_xor_nat _ _ (prodTo_lt a b k ha (by omega)) hm, prodTo, if_pos h]
theorem prod_no (a b k : Nat) (hb : b < 256) (h : (bits .and .u8 ((b : Int) / 2 ^ k) 1 == 1) = false) :
    Value.int .u16 (prodTo a b k : Nat) = .int .u16 (prodTo a b (k + 1) : Nat) := by
  rw [bit_u8 b k hb] at h
  rw [prodTo, if_neg (by rw [h]; decide)]
theorem rem_start (p : Nat) (hp : p < 65536) : Value.int .u8 (bits .and .u16 (p : Int) 255 % 256) = .int .u8 (remTo p 0 : Nat) := by
  rw [show (255 : Int) = ((255 : Nat) : Int) from rfl, u16_and_nat _ _ hp (by omega), nat_mask8, remTo]
  congr 1; omega
theorem rem_yes (p k : Nat) (hp : p < 65536) (hk : k < 7) (h : (bits .and .u16 ((p : Int) / 2 ^ (8 + k)) 1 == 1) = true) :
    Value.int .u8 (bits .xor .u8 (remTo p k : Nat) (high k : Nat)) = .int .u8 (remTo p (k + 1) : Nat) := by
  rw [bit_u16 p (8 + k) hp] at h
  rw [u8_xor_nat _ _ (remTo_lt p k (by omega)) (high_lt k hk), remTo, if_pos h]
theorem rem_no (p k : Nat) (hp : p < 65536) (h : (bits .and .u16 ((p : Int) / 2 ^ (8 + k)) 1 == 1) = false) :
    Value.int .u8 (remTo p k : Nat) = .int .u8 (remTo p (k + 1) : Nat) := by
  rw [bit_u16 p (8 + k) hp] at h
  rw [remTo, if_neg (by rw [h]; decide)]
theorem i64_xor (a b : Nat) (ha : a < 1073741824) (hb : b < 1073741824) : bits .xor .i64 (a : Int) (b : Int) = ((a ^^^ b : Nat) : Int) := by
  have hx : a ^^^ b < 2 ^ 30 := Nat.xor_lt_two_pow (by omega) (by omega)
  show IntKind.i64.wrap ((BitVec.ofInt 64 (a : Int) ^^^ BitVec.ofInt 64 (b : Int)).toNat : Int) = _
  rw [BitVec.toNat_xor, ofInt_u64 a (by omega), ofInt_u64 b (by omega)]
  simp [IntKind.wrap, IntKind.bits, IntKind.signed]
  omega
theorem bit_i64 (b m : Nat) : (((b : Int) / 2 ^ m).tmod 2 == 1) = b.testBit m := by
  rw [cast_shr, testBit_div, Bool.eq_iff_iff]
  generalize b / 2 ^ m = t
  rw [Int.tmod_eq_emod_of_nonneg (by omega)]
  simp; omega
theorem dbl_yes (t : Nat) (ht : t < 256) (h : 256 ≤ 2 * (t : Int)) : bits .xor .i64 (2 * (t : Int)) 285 = (dbl t : Nat) := by
  have e : (2 * (t : Int)) = ((2 * t : Nat) : Int) := by omega
  rw [e, show (285 : Int) = ((285 : Nat) : Int) from rfl, i64_xor _ _ (by omega) (by omega), dbl, if_pos (by omega)]
theorem dbl_no (t : Nat) (h : 2 * (t : Int) < 256) : 2 * (t : Int) = (dbl t : Nat) := by
  rw [dbl, if_neg (by omega)]; omega
end Go.Proofs.YtokmllopbfmadabDoor.Gf
