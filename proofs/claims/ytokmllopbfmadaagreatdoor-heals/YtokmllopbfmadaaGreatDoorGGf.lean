import Derived.KernelRfl
import Derived.Test.YtokmllopbfmadaaGreatDoorGMem
/- The field of the document, in plain numbers: products bit by bit, sums by exclusive or. Nothing of the program. -/
namespace Go.Proofs.YtokmllopbfmadaaGreatDoor.Gf

/-- Twice, by the document's polynomial. -/
def dbl (p : Nat) : Nat := if 256 ≤ 2 * p then (2 * p) ^^^ 285 else 2 * p
/-- The product as the document's answer reckons it: behind k rounds. -/
def timesTo (a b : Nat) : Nat → Nat
  | 0 => 0
  | k + 1 => if b.testBit (7 - k) then dbl (timesTo a b k) ^^^ a else dbl (timesTo a b k)
def times (a b : Nat) : Nat := timesTo a b 8
/-- The product of polynomials, as the program reckons it: behind k rounds. -/
def prodTo (a b : Nat) : Nat → Nat
  | 0 => 0
  | k + 1 => if b.testBit k then prodTo a b k ^^^ a * 2 ^ k else prodTo a b k
def high (k : Nat) : Nat := [29, 58, 116, 232, 205, 135, 19].getD k 0
/-- The remainder, as the program reckons it: behind k rounds. -/
def remTo (p : Nat) : Nat → Nat
  | 0 => p % 256
  | k + 1 => if p.testBit (8 + k) then remTo p k ^^^ high k else remTo p k
def mul (a b : Nat) : Nat := remTo (prodTo a b 8) 7

theorem xlc (a b c : Nat) : a ^^^ (b ^^^ c) = b ^^^ (a ^^^ c) := by
  rw [← Nat.xor_assoc, ← Nat.xor_assoc, Nat.xor_comm a b]
theorem xcl (a b : Nat) : a ^^^ (a ^^^ b) = b := by rw [← Nat.xor_assoc, Nat.xor_self, Nat.zero_xor]
theorem xor_lt {a b : Nat} (ha : a < 256) (hb : b < 256) : a ^^^ b < 256 := Nat.xor_lt_two_pow (n := 8) ha hb
theorem xor_lt16 {a b : Nat} (ha : a < 65536) (hb : b < 65536) : a ^^^ b < 65536 := Nat.xor_lt_two_pow (n := 16) ha hb

theorem dbl_lt : ∀ p, p < 256 → dbl p < 256 := by decide +kernel
theorem dbl_bit (p : Nat) (h : p < 256) : dbl p = (2 * p) ^^^ (if p.testBit 7 then 285 else 0) := by
  revert p; decide +kernel
theorem dbl_xor (p q : Nat) (hp : p < 256) (hq : q < 256) : dbl (p ^^^ q) = dbl p ^^^ dbl q := by
  rw [dbl_bit _ (xor_lt hp hq), dbl_bit p hp, dbl_bit q hq, Nat.testBit_xor]
  have e : 2 * (p ^^^ q) = 2 * p ^^^ 2 * q := by
    have := Nat.shiftLeft_xor_distrib (a := p) (b := q) (i := 1)
    simp only [Nat.shiftLeft_eq, Nat.pow_one] at this
    rw [Nat.mul_comm 2, Nat.mul_comm 2, Nat.mul_comm 2]; exact this
  rw [e]
  cases p.testBit 7 <;> cases q.testBit 7 <;> simp [Nat.xor_assoc, Nat.xor_comm, xlc]

theorem timesTo_lt (a b k : Nat) (ha : a < 256) : timesTo a b k < 256 := by
  induction k with
  | zero => simp [timesTo]
  | succ k ih => unfold timesTo; split
                 · exact xor_lt (dbl_lt _ ih) ha
                 · exact dbl_lt _ ih
theorem times_lt (a b : Nat) (ha : a < 256) : times a b < 256 := timesTo_lt a b 8 ha

theorem xor4 (a b c d : Nat) : (a ^^^ b) ^^^ (c ^^^ d) = (a ^^^ c) ^^^ (b ^^^ d) := by
  rw [Nat.xor_assoc, Nat.xor_assoc, xlc b c d]

theorem timesTo_xor_l (a a' b k : Nat) (ha : a < 256) (ha' : a' < 256) : timesTo (a ^^^ a') b k = timesTo a b k ^^^ timesTo a' b k := by
  induction k with
  | zero => simp [timesTo]
  | succ k ih =>
    unfold timesTo
    rw [ih, dbl_xor _ _ (timesTo_lt _ _ _ ha) (timesTo_lt _ _ _ ha')]
    split
    · exact xor4 _ _ _ _
    · rfl
theorem timesTo_xor_r (a b b' k : Nat) (ha : a < 256) : timesTo a (b ^^^ b') k = timesTo a b k ^^^ timesTo a b' k := by
  induction k with
  | zero => simp [timesTo]
  | succ k ih =>
    unfold timesTo
    rw [ih, dbl_xor _ _ (timesTo_lt _ _ _ ha) (timesTo_lt _ _ _ ha), Nat.testBit_xor]
    cases b.testBit (7 - k) <;> cases b'.testBit (7 - k) <;> simp [Nat.xor_assoc, Nat.xor_comm, xlc, xcl]
theorem times_xor_l (a a' b : Nat) (ha : a < 256) (ha' : a' < 256) : times (a ^^^ a') b = times a b ^^^ times a' b := timesTo_xor_l a a' b 8 ha ha'
theorem times_xor_r (a b b' : Nat) (ha : a < 256) : times a (b ^^^ b') = times a b ^^^ times a b' := timesTo_xor_r a b b' 8 ha

theorem prodTo_lt (a b k : Nat) (ha : a < 256) (hk : k ≤ 8) : prodTo a b k < 65536 := by
  induction k with
  | zero => simp [prodTo]
  | succ k ih =>
    unfold prodTo
    have h1 := ih (by omega)
    split
    · refine xor_lt16 h1 ?_
      have : 2 ^ k ≤ 2 ^ 7 := Nat.pow_le_pow_right (by omega) (by omega)
      have : a * 2 ^ k ≤ 255 * 2 ^ 7 := Nat.mul_le_mul (by omega) this
      omega
    · exact h1
theorem mulpow_lt (a k : Nat) (ha : a < 256) (hk : k < 8) : a * 2 ^ k < 65536 := by
  have : 2 ^ k ≤ 2 ^ 7 := Nat.pow_le_pow_right (by omega) (by omega)
  have : a * 2 ^ k ≤ 255 * 2 ^ 7 := Nat.mul_le_mul (by omega) this
  omega
theorem prodTo_xor_l (a a' b k : Nat) : prodTo (a ^^^ a') b k = prodTo a b k ^^^ prodTo a' b k := by
  induction k with
  | zero => simp [prodTo]
  | succ k ih =>
    unfold prodTo
    have e : (a ^^^ a') * 2 ^ k = a * 2 ^ k ^^^ a' * 2 ^ k := by
      have := Nat.shiftLeft_xor_distrib (a := a) (b := a') (i := k)
      simpa only [Nat.shiftLeft_eq] using this
    rw [ih, e]
    split
    · exact xor4 _ _ _ _
    · rfl
theorem prodTo_xor_r (a b b' k : Nat) : prodTo a (b ^^^ b') k = prodTo a b k ^^^ prodTo a b' k := by
  induction k with
  | zero => simp [prodTo]
  | succ k ih =>
    unfold prodTo
    rw [ih, Nat.testBit_xor]
    cases b.testBit k <;> cases b'.testBit k <;> simp [Nat.xor_assoc, Nat.xor_comm, xlc, xcl]
theorem high_lt : ∀ k, k < 7 → high k < 256 := by decide +kernel
theorem remTo_lt (p k : Nat) (hk : k ≤ 7) : remTo p k < 256 := by
  induction k with
  | zero => simp [remTo]; omega
  | succ k ih =>
    unfold remTo
    have h1 := ih (by omega)
    split
    · exact xor_lt h1 (high_lt k (by omega))
    · exact h1
theorem remTo_xor (p q k : Nat) : remTo (p ^^^ q) k = remTo p k ^^^ remTo q k := by
  induction k with
  | zero => simp only [remTo]; exact Nat.xor_mod_two_pow (n := 8)
  | succ k ih =>
    unfold remTo
    rw [ih, Nat.testBit_xor]
    cases p.testBit (8 + k) <;> cases q.testBit (8 + k) <;> simp [Nat.xor_assoc, Nat.xor_comm, xlc, xcl]
theorem mul_lt (a b : Nat) : mul a b < 256 := remTo_lt _ _ (Nat.le_refl _)
theorem mul_xor_l (a a' b : Nat) : mul (a ^^^ a') b = mul a b ^^^ mul a' b := by unfold mul; rw [prodTo_xor_l, remTo_xor]
theorem mul_xor_r (a b b' : Nat) : mul a (b ^^^ b') = mul a b ^^^ mul a b' := by unfold mul; rw [prodTo_xor_r, remTo_xor]

/-- Two sums-preserving functions that agree at the eight powers agree at every byte. -/
theorem ext (f g : Nat → Nat) (hf : ∀ x y, x < 256 → y < 256 → f (x ^^^ y) = f x ^^^ f y) (hg : ∀ x y, x < 256 → y < 256 → g (x ^^^ y) = g x ^^^ g y)
    (h : ∀ i, i < 8 → f (2 ^ i) = g (2 ^ i)) : ∀ x, x < 256 → f x = g x := by
  have z (u : Nat → Nat) (hu : ∀ x y, x < 256 → y < 256 → u (x ^^^ y) = u x ^^^ u y) : u 0 = 0 := by
    have := hu 0 0 (by omega) (by omega); simpa using this
  have key : ∀ n, n ≤ 8 → ∀ x, x < 2 ^ n → f x = g x := by
    intro n
    induction n with
    | zero => intro _ x hx; have : x = 0 := by simpa using hx
              subst this; rw [z f hf, z g hg]
    | succ n ih =>
      intro hn x hx
      by_cases hlt : x < 2 ^ n
      · exact ih (by omega) x hlt
      · have hp : 2 ^ (n + 1) = 2 ^ n + 2 ^ n := by rw [Nat.pow_succ]; omega
        have hb : 2 ^ n ≤ 2 ^ 7 := Nat.pow_le_pow_right (by omega) (by omega)
        have hr : x - 2 ^ n < 2 ^ n := by omega
        have e : x = 2 ^ n ^^^ (x - 2 ^ n) := by
          have h1 := Nat.two_pow_add_eq_or_of_lt hr 1
          have h2 : 2 ^ n ^^^ (x - 2 ^ n) = 2 ^ n ||| (x - 2 ^ n) := by
            apply Nat.eq_of_testBit_eq; intro i
            rw [Nat.testBit_xor, Nat.testBit_or, Nat.testBit_two_pow]
            by_cases hi : n = i
            · subst hi; rw [Nat.testBit_lt_two_pow hr]; simp
            · simp [hi]
          rw [h2]
          simp only [Nat.mul_one] at h1
          rw [← h1]; omega
        rw [e, hf _ _ (by omega) (by omega), hg _ _ (by omega) (by omega), h n (by omega), ih (by omega) _ hr]
  exact fun x hx => key 8 (Nat.le_refl _) x hx

theorem two_lt : ∀ i, i < 8 → 2 ^ i < 256 := by decide
theorem mul_basis : ∀ i, i < 8 → ∀ j, j < 8 → mul (2 ^ i) (2 ^ j) = times (2 ^ i) (2 ^ j) := by decide +kernel
/-- ████ The program's product is the document's. ████ -/
theorem mul_eq (a b : Nat) (ha : a < 256) (hb : b < 256) : mul a b = times a b := by
  refine ext (fun x => mul x b) (fun x => times x b) (fun x y _ _ => mul_xor_l x y b) (fun x y hx hy => times_xor_l x y b hx hy) (fun i hi => ?_) a ha
  exact ext (fun y => mul (2 ^ i) y) (fun y => times (2 ^ i) y) (fun x y _ _ => mul_xor_r _ x y) (fun x y _ _ => times_xor_r _ x y (two_lt i hi)) (fun j hj => mul_basis i hi j hj) b hb

theorem comm_basis : ∀ i, i < 8 → ∀ j, j < 8 → times (2 ^ i) (2 ^ j) = times (2 ^ j) (2 ^ i) := by decide +kernel
theorem times_comm (a b : Nat) (ha : a < 256) (hb : b < 256) : times a b = times b a := by
  refine ext (fun x => times x b) (fun x => times b x) (fun x y hx hy => times_xor_l x y b hx hy) (fun x y _ _ => times_xor_r _ x y hb) (fun i hi => ?_) a ha
  exact ext (fun y => times (2 ^ i) y) (fun y => times y (2 ^ i)) (fun x y _ _ => times_xor_r _ x y (two_lt i hi)) (fun x y hx hy => times_xor_l x y _ hx hy) (fun j hj => comm_basis i hi j hj) b hb

theorem assoc_basis : ∀ i, i < 8 → ∀ j, j < 8 → ∀ k, k < 8 → times (times (2 ^ i) (2 ^ j)) (2 ^ k) = times (2 ^ i) (times (2 ^ j) (2 ^ k)) := by decide +kernel
theorem times_assoc (a b c : Nat) (ha : a < 256) (hb : b < 256) (hc : c < 256) : times (times a b) c = times a (times b c) := by
  refine ext (fun x => times (times x b) c) (fun x => times x (times b c)) (fun x y hx hy => ?_) (fun x y hx hy => times_xor_l x y _ hx hy) (fun i hi => ?_) a ha
  · show times (times (x ^^^ y) b) c = _
    rw [times_xor_l x y b hx hy, times_xor_l _ _ _ (times_lt _ _ hx) (times_lt _ _ hy)]
  refine ext (fun y => times (times (2 ^ i) y) c) (fun y => times (2 ^ i) (times y c)) (fun x y hx hy => ?_) (fun x y hx hy => ?_) (fun j hj => ?_) b hb
  · show times (times (2 ^ i) (x ^^^ y)) c = _
    rw [times_xor_r _ x y (two_lt i hi), times_xor_l _ _ _ (times_lt _ _ (two_lt i hi)) (times_lt _ _ (two_lt i hi))]
  · show times (2 ^ i) (times (x ^^^ y) c) = _
    rw [times_xor_l x y c hx hy, times_xor_r _ _ _ (two_lt i hi)]
  refine ext (fun z => times (times (2 ^ i) (2 ^ j)) z) (fun z => times (2 ^ i) (times (2 ^ j) z)) (fun x y _ _ => times_xor_r _ x y (times_lt _ _ (two_lt i hi))) (fun x y hx hy => ?_) (fun k hk => assoc_basis i hi j hj k hk) c hc
  show times (2 ^ i) (times (2 ^ j) (x ^^^ y)) = _
  rw [times_xor_r _ x y (two_lt j hj), times_xor_r _ _ _ (two_lt i hi)]

theorem times_one : ∀ a, a < 256 → times a 1 = a := by decide +kernel
theorem one_times : ∀ a, a < 256 → times 1 a = a := by decide +kernel
theorem times_zero : ∀ a, a < 256 → times a 0 = 0 := by decide +kernel
theorem zero_times : ∀ a, a < 256 → times 0 a = 0 := by decide +kernel
theorem times_two : ∀ a, a < 256 → times a 2 = dbl a := by decide +kernel

/-- The powers and products of the inverse: behind k rounds, (inverse, power). -/
def invTo (a : Nat) : Nat → Nat × Nat
  | 0 => (1, a)
  | k + 1 => (times (invTo a k).1 (times (invTo a k).2 (invTo a k).2), times (invTo a k).2 (invTo a k).2)
def inv (a : Nat) : Nat := (invTo a 7).1
theorem invTo_lt (a k : Nat) (ha : a < 256) : (invTo a k).1 < 256 ∧ (invTo a k).2 < 256 := by
  induction k with
  | zero => exact ⟨by simp [invTo], by simpa [invTo] using ha⟩
  | succ k ih => exact ⟨times_lt _ _ ih.1, times_lt _ _ ih.2⟩
theorem inv_lt (a : Nat) (ha : a < 256) : inv a < 256 := (invTo_lt a 7 ha).1
theorem inv_right0 : ∀ a, a < 256 → a = 0 ∨ times a (inv a) = 1 := by decide +kernel
theorem inv_right (a : Nat) (ha : a < 256) (h : a ≠ 0) : times a (inv a) = 1 := (inv_right0 a ha).resolve_left h
theorem inv_pos (a : Nat) (ha : a < 256) (h : a ≠ 0) : 0 < inv a := by
  rcases Nat.eq_zero_or_pos (inv a) with h0 | h0
  · have := inv_right a ha h; rw [h0, times_zero a ha] at this; omega
  · exact h0
theorem inv_unique (a b : Nat) (ha : a < 256) (hb : b < 256) (h : times a b = 1) : b = inv a := by
  have h0 : a ≠ 0 := by intro e; rw [e, zero_times b hb] at h; omega
  have e1 : times (times (inv a) a) b = times (inv a) (times a b) := times_assoc _ _ _ (inv_lt a ha) ha hb
  rw [h, times_comm (inv a) a (inv_lt a ha) ha, inv_right a ha h0, one_times b hb, times_one _ (inv_lt a ha)] at e1
  exact e1
end Go.Proofs.YtokmllopbfmadaaGreatDoor.Gf

namespace Go.Proofs.YtokmllopbfmadaaGreatDoor.Plans
open Go.RowKit Mem

/-- A step of a plan. -/
structure Stp where
  to : Nat
  src : Nat
  fresh : Bool
def Stp.cells (s : Stp) : List Value := [.int .i64 s.to, .int .i64 s.src, .bool s.fresh]
/-- The slice v reads as these steps. -/
def StepsAt (w : World) (v : Value) (ss : List Stp) : Prop :=
  ∃ ao cap, v = .slice ao ss.length cap ∧ (ss = [] ∨ ∃ g cur, ao = some ⟨g, 0, none⟩ ∧ w.heap[g]? = some (.cells cur 98 (0, 0)) ∧ ∀ k, (h : k < ss.length) → ∀ r, r < 3 → cur[k * 3 + r]? = (ss[k].cells)[r]?)
theorem StepsAt.but {w w' : World} {v : Value} {ss : List Stp} {S : Nat} {us : List Value} {t : TypeId} (h : StepsAt w v ss) (hb : But S w w') (hS : Blk w S t us) (ht : 98 ≠ t) : StepsAt w' v ss := by
  obtain ⟨ao, cap, rfl, h⟩ := h
  refine ⟨ao, cap, rfl, ?_⟩
  rcases h with h | ⟨g, cur, rfl, hg, hc⟩
  · exact .inl h
  · exact .inr ⟨g, cur, rfl, by rw [hb.rest g (Blk.type_ne (w := w) (vs := cur.toList) (by unfold Blk; rw [hg]) hS ht) (lt_of_block hg)]; exact hg, hc⟩
theorem StepsAt.to {w w' : World} {v : Value} {ss : List Stp} (h : StepsAt w v ss) (hb : Below w.heap.size w w') : StepsAt w' v ss := by
  obtain ⟨ao, cap, rfl, h⟩ := h
  refine ⟨ao, cap, rfl, ?_⟩
  rcases h with h | ⟨g, cur, rfl, hg, hc⟩
  · exact .inl h
  · exact .inr ⟨g, cur, rfl, by rw [hb.block g (lt_of_block hg)]; exact hg, hc⟩
/-- What one step makes of the slots. -/
def step1 (f : Nat → Nat) (s : Stp) : Nat → Nat := upd f s.to (if s.fresh then f s.src else f s.to ^^^ f s.src)
def runOn (f : Nat → Nat) (ss : List Stp) : Nat → Nat := ss.foldl step1 f
def Stp.ok (m : Nat) (s : Stp) : Prop := s.to < m ∧ s.src < m
theorem upd_lt {f : Nat → Nat} {B k x : Nat} (hf : ∀ i, f i < B) (hx : x < B) : ∀ i, upd f k x i < B := by
  intro i; unfold upd; split
  · exact hx
  · exact hf i
theorem step1_lt {f : Nat → Nat} (s : Stp) (hf : ∀ i, f i < 18446744073709551616) : ∀ i, step1 f s i < 18446744073709551616 := by
  refine upd_lt hf ?_
  split
  · exact hf _
  · exact Nat.xor_lt_two_pow (n := 64) (hf _) (hf _)
theorem runOn_lt (ss : List Stp) : ∀ (f : Nat → Nat), (∀ i, f i < 18446744073709551616) → ∀ i, runOn f ss i < 18446744073709551616 := by
  induction ss with
  | nil => intro f hf; exact hf
  | cons s ss ih => intro f hf; exact ih _ (step1_lt s hf)
theorem runOn_take (f : Nat → Nat) (ss : List Stp) (k : Nat) (hk : k < ss.length) : runOn f (ss.take (k + 1)) = step1 (runOn f (ss.take k)) ss[k] := by
  unfold runOn
  rw [List.take_add_one, List.getElem?_eq_getElem hk, List.foldl_append]
  rfl
end Go.Proofs.YtokmllopbfmadaaGreatDoor.Plans

/- The slots that turn a bit; sums of slots. -/
namespace Go.Proofs.YtokmllopbfmadaaGreatDoor.Plans
open Go.RowKit Mem

/-- The slots of one piece that turn a bit of its product with f: behind b of its bits. -/
def turnIn (f bit o : Nat) : Nat → List Nat
  | 0 => []
  | b + 1 => turnIn f bit o b ++ (if (Gf.times f (2 ^ b)).testBit bit then [o + b] else [])
/-- The slots of the first j pieces that turn a bit of the sum. -/
def turnTo (row : List Nat) (bit : Nat) : Nat → List Nat
  | 0 => []
  | j + 1 => turnTo row bit j ++ turnIn (row.getD j 0) bit (8 * j) 8
theorem turnIn_le (f bit o b : Nat) : (turnIn f bit o b).length ≤ b := by
  induction b with
  | zero => simp [turnIn]
  | succ b ih => unfold turnIn; split <;> simp <;> omega
theorem turnTo_le (row : List Nat) (bit j : Nat) : (turnTo row bit j).length ≤ 8 * j := by
  induction j with
  | zero => simp [turnTo]
  | succ j ih => unfold turnTo; have := turnIn_le (row.getD j 0) bit (8 * j) 8; rw [List.length_append]; omega
theorem turn_yes (f bit o b : Nat) (h : (Gf.times f (2 ^ b)).testBit bit = true) : turnIn f bit o (b + 1) = turnIn f bit o b ++ [o + b] := by
  simp [turnIn, h]
theorem turn_no (f bit o b : Nat) (h : (Gf.times f (2 ^ b)).testBit bit = false) : turnIn f bit o (b + 1) = turnIn f bit o b := by
  simp [turnIn, h]
theorem turnIn_mem (f bit o : Nat) : ∀ b x, x ∈ turnIn f bit o b → o ≤ x ∧ x < o + b
  | 0, x, h => by simp [turnIn] at h
  | b + 1, x, h => by
    rw [turnIn, List.mem_append] at h
    rcases h with h | h
    · have := turnIn_mem f bit o b x h; omega
    · split at h
      · simp at h; omega
      · cases h
theorem turnIn_rising (f bit o : Nat) : ∀ b, (turnIn f bit o b).Pairwise (· < ·)
  | 0 => by simp [turnIn]
  | b + 1 => by
    rw [turnIn, List.pairwise_append]
    refine ⟨turnIn_rising f bit o b, by split <;> simp, fun x hx y hy => ?_⟩
    have := turnIn_mem f bit o b x hx
    split at hy
    · simp at hy; omega
    · cases hy
theorem turnTo_mem (row : List Nat) (bit : Nat) : ∀ j x, x ∈ turnTo row bit j → x < 8 * j
  | 0, x, h => by simp [turnTo] at h
  | j + 1, x, h => by
    rw [turnTo, List.mem_append] at h
    rcases h with h | h
    · have := turnTo_mem row bit j x h; omega
    · have := turnIn_mem _ _ _ _ _ h; omega

/-- The sum of these slots. -/
def xs (f : Nat → Nat) (ts : List Nat) : Nat := (ts.map f).foldl (· ^^^ ·) 0
theorem foldl_xor (l : List Nat) : ∀ a, l.foldl (· ^^^ ·) a = a ^^^ l.foldl (· ^^^ ·) 0 := by
  induction l with
  | nil => intro a; simp
  | cons x l ih => intro a; rw [List.foldl_cons, ih, List.foldl_cons, ih (0 ^^^ x)]; simp [Nat.xor_assoc]
theorem xs_append (f : Nat → Nat) (a b : List Nat) : xs f (a ++ b) = xs f a ^^^ xs f b := by
  unfold xs; rw [List.map_append, List.foldl_append, foldl_xor]
theorem xs_nil (f : Nat → Nat) : xs f [] = 0 := rfl
theorem xs_one (f : Nat → Nat) (x : Nat) : xs f [x] = f x := by simp [xs]
theorem xs_cons (f : Nat → Nat) (x : Nat) (l : List Nat) : xs f (x :: l) = f x ^^^ xs f l := by
  have := xs_append f [x] l
  rw [xs_one] at this; exact this
theorem xs_congr {f g : Nat → Nat} {ts : List Nat} (h : ∀ x, x ∈ ts → f x = g x) : xs f ts = xs g ts := by
  unfold xs; rw [List.map_congr_left h]
theorem runOn_append (f : Nat → Nat) (a b : List Stp) : runOn f (a ++ b) = runOn (runOn f a) b := by simp [runOn]
theorem xs_filter1 (f : Nat → Nat) (a : Nat) : ∀ l : List Nat, l.Pairwise (· < ·) → a ∈ l → xs f l = xs f (l.filter fun x => x != a) ^^^ f a
  | [], _, h => by cases h
  | x :: l, hp, h => by
    rw [List.pairwise_cons] at hp
    by_cases e : x = a
    · subst e
      have hf : l.filter (fun y => y != x) = l := List.filter_eq_self.2 fun y hy => by have := hp.1 y hy; simp; omega
      rw [xs_cons, List.filter_cons_of_neg (by simp), hf, Nat.xor_comm]
    · have ha : a ∈ l := by
        rcases List.mem_cons.1 h with h | h
        · exact absurd h.symm e
        · exact h
      rw [xs_cons, List.filter_cons_of_pos (by simp [e]), xs_cons, xs_filter1 f a l hp.2 ha, Nat.xor_assoc]
theorem length_filter1 (a : Nat) : ∀ l : List Nat, l.Pairwise (· < ·) → a ∈ l → (l.filter fun x => x != a).length + 1 = l.length
  | [], _, h => by cases h
  | x :: l, hp, h => by
    rw [List.pairwise_cons] at hp
    by_cases e : x = a
    · subst e
      have hf : l.filter (fun y => y != x) = l := List.filter_eq_self.2 fun y hy => by have := hp.1 y hy; simp; omega
      rw [List.filter_cons_of_neg (by simp), hf]; rfl
    · have ha : a ∈ l := by
        rcases List.mem_cons.1 h with h | h
        · exact absurd h.symm e
        · exact h
      rw [List.filter_cons_of_pos (by simp [e]), List.length_cons, length_filter1 a l hp.2 ha]; rfl
/-- What is left of a list behind the pair. -/
def rest2 (a b : Nat) (l : List Nat) : List Nat := l.filter fun x => !(x == a || x == b)
theorem rest2_eq (a b : Nat) (l : List Nat) : rest2 a b l = (l.filter fun x => x != a).filter fun x => x != b := by
  unfold rest2; rw [List.filter_filter]
  refine List.filter_congr fun x _ => ?_
  cases h1 : (x == a) <;> cases h2 : (x == b) <;> simp [bne, h1, h2]
theorem rest2_xs (f : Nat → Nat) {a b : Nat} {l : List Nat} (hp : l.Pairwise (· < ·)) (hab : a ≠ b) (ha : a ∈ l) (hb : b ∈ l) : xs f l = xs f (rest2 a b l) ^^^ (f a ^^^ f b) := by
  have hb' : b ∈ l.filter fun x => x != a := by simp [hb, Ne.symm hab]
  rw [rest2_eq, xs_filter1 f a l hp ha, xs_filter1 f b _ (hp.filter _) hb', Nat.xor_assoc, Nat.xor_comm (f b)]
theorem rest2_length {a b : Nat} {l : List Nat} (hp : l.Pairwise (· < ·)) (hab : a ≠ b) (ha : a ∈ l) (hb : b ∈ l) : (rest2 a b l).length + 2 = l.length := by
  have hb' : b ∈ l.filter fun x => x != a := by simp [hb, Ne.symm hab]
  have h1 := length_filter1 a l hp ha
  have h2 := length_filter1 b _ (hp.filter (fun x => x != a)) hb'
  rw [rest2_eq]; omega
theorem rest2_mem {a b x : Nat} {l : List Nat} : x ∈ rest2 a b l ↔ x ∈ l ∧ x ≠ a ∧ x ≠ b := by simp [rest2]
end Go.Proofs.YtokmllopbfmadaaGreatDoor.Plans

/- The plan, in plain numbers: pairs that many lists have are made once. -/
namespace Go.Proofs.YtokmllopbfmadaaGreatDoor.Plans

/-- Does the list have both? -/
def both (a b : Nat) (l : List Nat) : Bool := decide (a ∈ l) && decide (b ∈ l)
/-- How many lists have both. -/
def cnt (L : List (List Nat)) (a b : Nat) : Nat := if a < b then L.countP (both a b) else 0
/-- The pair that most lists have: the least of those. -/
def IsBest (L : List (List Nat)) (p : Nat × Nat) (t : Nat) : Prop :=
  (∀ x y, cnt L x y ≤ t) ∧ ((t = 0 ∧ p = (0, 0)) ∨ (0 < t ∧ cnt L p.1 p.2 = t ∧ ∀ x y, cnt L x y = t → p.1 < x ∨ (p.1 = x ∧ p.2 ≤ y)))
theorem IsBest.one {L : List (List Nat)} {p q : Nat × Nat} {t u : Nat} (h : IsBest L p t) (k : IsBest L q u) : p = q ∧ t = u := by
  obtain ⟨h1, h2⟩ := h
  obtain ⟨k1, k2⟩ := k
  rcases h2 with ⟨ht, hp⟩ | ⟨ht, hp, hl⟩
  · rcases k2 with ⟨ku, kp⟩ | ⟨ku, kp, kl⟩
    · exact ⟨hp.trans kp.symm, by omega⟩
    · have := h1 q.1 q.2; omega
  · rcases k2 with ⟨ku, kp⟩ | ⟨ku, kp, kl⟩
    · have := k1 p.1 p.2; omega
    · have e1 := h1 q.1 q.2
      have e2 := k1 p.1 p.2
      have e : t = u := by omega
      have a := hl q.1 q.2 (by omega)
      have b := kl p.1 p.2 (by omega)
      refine ⟨Prod.ext (by omega) (by omega), e⟩
open Classical in
noncomputable def best (L : List (List Nat)) : (Nat × Nat) × Nat := if h : ∃ q : (Nat × Nat) × Nat, IsBest L q.1 q.2 then Classical.choose h else ((0, 0), 0)
theorem best_eq {L : List (List Nat)} {p : Nat × Nat} {t : Nat} (h : IsBest L p t) : best L = (p, t) := by
  have hex : ∃ q : (Nat × Nat) × Nat, IsBest L q.1 q.2 := ⟨(p, t), h⟩
  unfold best
  rw [dif_pos hex]
  have := (Classical.choose_spec hex).one h
  exact Prod.ext this.1 this.2
/-- The helper in the pair's place. -/
def putH (L : List (List Nat)) (p : Nat × Nat) (h : Nat) : List (List Nat) := L.map fun l => if both p.1 p.2 l then rest2 p.1 p.2 l ++ [h] else l
/-- The lists behind k helpers. -/
noncomputable def listsTo (L : List (List Nat)) (h : Nat) : Nat → List (List Nat)
  | 0 => L
  | k + 1 => putH (listsTo L h k) (best (listsTo L h k)).1 (h + k)
/-- The helpers' steps. -/
noncomputable def helpTo (L : List (List Nat)) (h : Nat) : Nat → List Stp
  | 0 => []
  | k + 1 => helpTo L h k ++ [⟨h + k, (best (listsTo L h k)).1.1, true⟩, ⟨h + k, (best (listsTo L h k)).1.2, false⟩]
/-- So many helpers are made. -/
def IsEnd (L : List (List Nat)) (h K : Nat) : Prop := (best (listsTo L h K)).2 < 3 ∧ (∀ k, k < K → 3 ≤ (best (listsTo L h k)).2) ∧ ∀ k, k ≤ K → ∃ p t, IsBest (listsTo L h k) p t
theorem IsEnd.one {L : List (List Nat)} {h K M : Nat} (a : IsEnd L h K) (b : IsEnd L h M) : K = M := by
  by_cases h1 : K < M
  · have := b.2.1 K h1; have := a.1; omega
  · by_cases h2 : M < K
    · have := a.2.1 M h2; have := b.1; omega
    · omega
open Classical in
noncomputable def endOf (L : List (List Nat)) (h : Nat) : Nat := if e : ∃ K, IsEnd L h K then Classical.choose e else 0
theorem endOf_eq {L : List (List Nat)} {h K : Nat} (e : IsEnd L h K) : endOf L h = K := by
  have hex : ∃ K, IsEnd L h K := ⟨K, e⟩
  unfold endOf
  rw [dif_pos hex]
  exact (Classical.choose_spec hex).one e
/-- The lists of one piece. -/
def needs (rows : List (List Nat)) (j : Nat) : List (List Nat) := (List.range (8 * rows.length)).map fun k => turnIn ((rows.getD (k / 8) []).getD j 0) (k % 8) (8 * j) 8
/-- The steps into one sum's bit. -/
def addB (dst : Nat) : List Nat → Bool → List Stp
  | [], _ => []
  | x :: l, b => ⟨dst, x, !b⟩ :: addB dst l true
/-- The steps into the sums' bits, of the first k lists. -/
def addTo' (first : Nat) (L : List (List Nat)) (begun : Nat → Bool) : Nat → List Stp
  | 0 => []
  | k + 1 => addTo' first L begun k ++ addB (first + k) (L.getD k []) (begun k)
/-- Which bits have had a step, behind the first j pieces. -/
def begunTo (rows : List (List Nat)) : Nat → Nat → Bool
  | 0, _ => false
  | j + 1, k => begunTo rows j k || !((needs rows j).getD k []).isEmpty
noncomputable def pieceSteps (rows : List (List Nat)) (n j : Nat) : List Stp :=
  helpTo (needs rows j) (8 * (n + rows.length)) (endOf (needs rows j) (8 * (n + rows.length))) ++ addTo' (8 * n) (listsTo (needs rows j) (8 * (n + rows.length)) (endOf (needs rows j) (8 * (n + rows.length)))) (begunTo rows j) (8 * rows.length)
/-- ████ The plan. ████ -/
noncomputable def planTo (rows : List (List Nat)) (n : Nat) : Nat → List Stp
  | 0 => []
  | j + 1 => planTo rows n j ++ pieceSteps rows n j
/-- Each piece's helpers come to an end. -/
def Ends (rows : List (List Nat)) (n : Nat) : Prop := ∀ j, j < n → IsEnd (needs rows j) (8 * (n + rows.length)) (endOf (needs rows j) (8 * (n + rows.length)))

/-! ### what the lists are -/
structure LOk (L : List (List Nat)) (o h k : Nat) : Prop where
  up : ∀ l, l ∈ L → l.Pairwise (· < ·)
  inn : ∀ l, l ∈ L → ∀ x, x ∈ l → (o ≤ x ∧ x < o + 8) ∨ (h ≤ x ∧ x < h + k)
def total (L : List (List Nat)) : Nat := (L.map List.length).sum
theorem putH_length (L : List (List Nat)) (p : Nat × Nat) (h : Nat) : (putH L p h).length = L.length := by simp [putH]
theorem listsTo_length (L : List (List Nat)) (h k : Nat) : (listsTo L h k).length = L.length := by
  induction k with
  | zero => rfl
  | succ k ih => rw [listsTo, putH_length, ih]
theorem needs_length (rows : List (List Nat)) (j : Nat) : (needs rows j).length = 8 * rows.length := by simp [needs]
theorem needs_ok (rows : List (List Nat)) (j h : Nat) : LOk (needs rows j) (8 * j) h 0 := by
  constructor
  · intro l hl
    simp only [needs, List.mem_map] at hl
    obtain ⟨k, _, rfl⟩ := hl
    exact turnIn_rising _ _ _ _
  · intro l hl x hx
    simp only [needs, List.mem_map] at hl
    obtain ⟨k, _, rfl⟩ := hl
    exact .inl (turnIn_mem _ _ _ _ _ hx)
theorem LOk.put {L : List (List Nat)} {o h k : Nat} (H : LOk L o h k) (ho : o + 8 ≤ h) (p : Nat × Nat) : LOk (putH L p (h + k)) o h (k + 1) := by
  constructor
  · intro l hl
    simp only [putH, List.mem_map] at hl
    obtain ⟨m, hm, rfl⟩ := hl
    split
    · rw [List.pairwise_append]
      refine ⟨(H.up m hm).filter _, by simp, fun x hx y hy => ?_⟩
      have := H.inn m hm x (rest2_mem.1 hx).1
      simp at hy; omega
    · exact H.up m hm
  · intro l hl x hx
    simp only [putH, List.mem_map] at hl
    obtain ⟨m, hm, rfl⟩ := hl
    split at hx
    · rcases List.mem_append.1 hx with hx | hx
      · have := H.inn m hm x (rest2_mem.1 hx).1; omega
      · simp at hx; omega
    · have := H.inn m hm x hx; omega
theorem listsTo_ok {L : List (List Nat)} {o h : Nat} (H : LOk L o h 0) (ho : o + 8 ≤ h) : ∀ k, LOk (listsTo L h k) o h k
  | 0 => H
  | k + 1 => (listsTo_ok H ho k).put ho _
theorem both_iff {a b : Nat} {l : List Nat} : both a b l = true ↔ a ∈ l ∧ b ∈ l := by simp [both]
theorem total_put {p : Nat × Nat} (hp : p.1 < p.2) (h : Nat) : ∀ (L : List (List Nat)), (∀ l, l ∈ L → l.Pairwise (· < ·)) → total (putH L p h) + L.countP (both p.1 p.2) = total L
  | [], _ => rfl
  | l :: L, hu => by
    have ih := total_put hp h L (fun l hl => hu l (List.mem_cons_of_mem _ hl))
    have e1 : total (putH (l :: L) p h) = (if both p.1 p.2 l then rest2 p.1 p.2 l ++ [h] else l).length + total (putH L p h) := by simp [total, putH]
    have e2 : total (l :: L) = l.length + total L := by simp [total]
    rw [e1, e2]
    by_cases hb : both p.1 p.2 l = true
    · have hm := both_iff.1 hb
      have := rest2_length (hu l (List.mem_cons_self ..)) (by omega) hm.1 hm.2
      rw [List.countP_cons_of_pos hb, if_pos hb, List.length_append, List.length_singleton]; omega
    · rw [List.countP_cons_of_neg hb, if_neg hb]; omega
theorem cnt_pos {L : List (List Nat)} {a b : Nat} (h : 0 < cnt L a b) : a < b ∧ ∃ l, l ∈ L ∧ a ∈ l ∧ b ∈ l := by
  unfold cnt at h
  split at h
  · rename_i hab
    obtain ⟨l, hl, hb⟩ := List.countP_pos_iff.1 h
    exact ⟨hab, l, hl, both_iff.1 hb⟩
  · omega
theorem IsBest.pair {L : List (List Nat)} {p : Nat × Nat} {t : Nat} (h : IsBest L p t) (ht : 3 ≤ t) : p.1 < p.2 ∧ L.countP (both p.1 p.2) = t ∧ ∃ l, l ∈ L ∧ p.1 ∈ l ∧ p.2 ∈ l := by
  rcases h.2 with ⟨h0, _⟩ | ⟨_, hc, _⟩
  · omega
  · obtain ⟨h1, h2⟩ := cnt_pos (L := L) (a := p.1) (b := p.2) (by omega)
    refine ⟨h1, ?_, h2⟩
    unfold cnt at hc; rw [if_pos h1] at hc; exact hc
/-- What is known behind k helpers. -/
theorem pair_at {L : List (List Nat)} {h K : Nat} (e : IsEnd L h K) {k : Nat} (hk : k < K) : IsBest (listsTo L h k) (best (listsTo L h k)).1 (best (listsTo L h k)).2 ∧ 3 ≤ (best (listsTo L h k)).2 := by
  obtain ⟨p, t, hb⟩ := e.2.2 k (by omega)
  have := best_eq hb
  refine ⟨?_, e.2.1 k hk⟩
  rw [this]; exact hb
theorem total_to {L : List (List Nat)} {o h K : Nat} (H : LOk L o h 0) (ho : o + 8 ≤ h) (e : IsEnd L h K) : ∀ k, k ≤ K → total (listsTo L h k) + 3 * k ≤ total L
  | 0, _ => Nat.le_refl _
  | k + 1, hk => by
    have ih := total_to H ho e k (by omega)
    obtain ⟨hb, ht⟩ := pair_at e (k := k) (by omega)
    obtain ⟨h1, h2, _⟩ := hb.pair ht
    have := total_put h1 (h + k) _ (listsTo_ok H ho k).up
    rw [listsTo]; omega
theorem total_le (m : Nat) : ∀ (L : List (List Nat)), (∀ l, l ∈ L → l.length ≤ m) → total L ≤ m * L.length
  | [], _ => by simp [total]
  | l :: L, h => by
    have := total_le m L (fun l hl => h l (List.mem_cons_of_mem _ hl))
    have := h l (List.mem_cons_self ..)
    have e2 : total (l :: L) = l.length + total L := by simp [total]
    rw [e2, List.length_cons, Nat.mul_add, Nat.mul_one]; omega
theorem needs_total (rows : List (List Nat)) (j : Nat) : total (needs rows j) ≤ 64 * rows.length := by
  have := total_le 8 (needs rows j) (fun l hl => by
    simp only [needs, List.mem_map] at hl
    obtain ⟨k, _, rfl⟩ := hl
    exact turnIn_le _ _ _ _)
  rw [needs_length] at this; omega
theorem end_le {rows : List (List Nat)} {n j K : Nat} (hj : j < n) (e : IsEnd (needs rows j) (8 * (n + rows.length)) K) : 3 * K ≤ 64 * rows.length := by
  have h1 := total_to (needs_ok rows j _) (by omega) e K (Nat.le_refl _)
  have h2 := needs_total rows j
  omega
/-! ### how many steps there are -/
theorem helpTo_length (L : List (List Nat)) (h k : Nat) : (helpTo L h k).length = 2 * k := by
  induction k with
  | zero => rfl
  | succ k ih => rw [helpTo, List.length_append, ih]; rfl
theorem addB_length (dst : Nat) : ∀ (l : List Nat) (b : Bool), (addB dst l b).length = l.length
  | [], _ => rfl
  | x :: l, b => by rw [addB, List.length_cons, addB_length dst l, List.length_cons]
theorem addB_snoc (dst x : Nat) : ∀ (l : List Nat) (b : Bool), addB dst (l ++ [x]) b = addB dst l b ++ [⟨dst, x, !(b || !l.isEmpty)⟩]
  | [], b => by simp [addB]
  | y :: l, b => by
    rw [List.cons_append, addB, addB_snoc dst x l true]
    simp [addB]
theorem addTo_length (first : Nat) (L : List (List Nat)) (b : Nat → Bool) : ∀ k, k ≤ L.length → (addTo' first L b k).length = total (L.take k)
  | 0, _ => rfl
  | k + 1, hk => by
    have hlt : k < L.length := by omega
    have e1 : L.take (k + 1) = L.take k ++ [L[k]] := by rw [List.take_add_one, List.getElem?_eq_getElem hlt]; rfl
    have e2 : total (L.take k ++ [L[k]]) = total (L.take k) + L[k].length := by unfold total; rw [List.map_append, List.sum_append]; simp
    have e3 : L.getD k [] = L[k] := by simp [hlt]
    rw [addTo', List.length_append, addTo_length first L b k (by omega), addB_length, e1, e2, e3]
theorem piece_few {rows : List (List Nat)} {n j : Nat} (hj : j < n) (e : IsEnd (needs rows j) (8 * (n + rows.length)) (endOf (needs rows j) (8 * (n + rows.length)))) : (pieceSteps rows n j).length ≤ total (needs rows j) := by
  have h1 := total_to (needs_ok rows j _) (by omega) e _ (Nat.le_refl _)
  unfold pieceSteps
  rw [List.length_append, helpTo_length, addTo_length _ _ _ _ (by rw [listsTo_length, needs_length]; omega), List.take_of_length_le (by rw [listsTo_length, needs_length]; omega)]
  omega
/-- How many pairs of bits there are, of the first j pieces. -/
def needsTo (rows : List (List Nat)) : Nat → Nat
  | 0 => 0
  | j + 1 => needsTo rows j + total (needs rows j)
theorem plan_few {rows : List (List Nat)} {n : Nat} (e : Ends rows n) : ∀ j, j ≤ n → (planTo rows n j).length ≤ needsTo rows j
  | 0, _ => Nat.le_refl _
  | j + 1, hj => by
    have := plan_few e j (by omega)
    have := piece_few (j := j) (by omega) (e j (by omega))
    rw [planTo, List.length_append, needsTo]; omega
theorem needsTo_le (rows : List (List Nat)) (j : Nat) : needsTo rows j ≤ 64 * rows.length * j := by
  induction j with
  | zero => simp [needsTo]
  | succ j ih => have := needs_total rows j; rw [needsTo, Nat.mul_add, Nat.mul_one]; omega
end Go.Proofs.YtokmllopbfmadaaGreatDoor.Plans
