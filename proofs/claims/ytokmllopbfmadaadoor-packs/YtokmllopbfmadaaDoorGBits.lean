import Derived.Test.YtokmllopbfmadaaDoorGPlanRun
import Derived.Test.YtokmllopbfmadaaDoorGMem
import Derived.DeepKeys5
import Derived.Maps.RangeWalk
import Derived.Maps.OwnOps
import Derived.WideKeyEntry
import Derived.Test.YtokmllopbfmadaaDoorGGf
import Derived.Deep.MidRow
/- Numbers by their bits; words whose bits are those of eight bytes side by side. -/
namespace Go.Proofs.YtokmllopbfmadaaDoor.Gf

theorem one_testBit (i : Nat) : (1 : Nat).testBit i = decide (i = 0) := by
  rw [show (1 : Nat) = 2 ^ 0 from rfl, Nat.testBit_two_pow]; simp [eq_comm]
/-- The number whose first n bits are these. -/
def bitsOf : Nat → (Nat → Bool) → Nat
  | 0, _ => 0
  | n + 1, p => 2 ^ n * (if p n then 1 else 0) + bitsOf n p
theorem bitsOf_lt (n : Nat) (p : Nat → Bool) : bitsOf n p < 2 ^ n := by
  induction n with
  | zero => simp [bitsOf]
  | succ n ih => unfold bitsOf; rw [Nat.pow_succ]; split <;> omega
theorem bitsOf_testBit (n : Nat) (p : Nat → Bool) (j : Nat) : (bitsOf n p).testBit j = (decide (j < n) && p j) := by
  induction n with
  | zero => simp [bitsOf]
  | succ n ih =>
    unfold bitsOf
    rw [Nat.testBit_two_pow_mul_add _ (bitsOf_lt n p)]
    by_cases h : j < n
    · rw [if_pos h, ih]; simp [h, show j < n + 1 by omega]
    · rw [if_neg h]
      by_cases e : j = n
      · subst e; cases p j <;> simp
      · have h2 : ¬ j < n + 1 := by omega
        have h3 : j - n ≠ 0 := by omega
        simp only [h2, decide_false, Bool.false_and]
        split
        · rw [one_testBit]; simp; omega
        · simp
theorem eq_bitsOf {n x : Nat} {p : Nat → Bool} (hx : x < 2 ^ n) (h : ∀ j, j < n → x.testBit j = p j) : x = bitsOf n p := by
  apply Nat.eq_of_testBit_eq
  intro j
  rw [bitsOf_testBit]
  by_cases hj : j < n
  · simp [hj, h j hj]
  · rw [Nat.testBit_lt_two_pow (Nat.lt_of_lt_of_le hx (Nat.pow_le_pow_right (by omega) (by omega)))]; simp [hj]
theorem bitsOf_congr {n : Nat} {p q : Nat → Bool} (h : ∀ j, j < n → p j = q j) : bitsOf n p = bitsOf n q :=
  eq_bitsOf (bitsOf_lt n p) fun j hj => by rw [bitsOf_testBit]; simp [hj, h j hj]
theorem bitsOf_self {n x : Nat} (hx : x < 2 ^ n) : bitsOf n x.testBit = x := (eq_bitsOf hx fun _ _ => rfl).symm
theorem xor_bitsOf (n : Nat) (p q : Nat → Bool) : bitsOf n p ^^^ bitsOf n q = bitsOf n fun j => p j ^^ q j := by
  refine eq_bitsOf (Nat.xor_lt_two_pow (bitsOf_lt n p) (bitsOf_lt n q)) fun j hj => ?_
  rw [Nat.testBit_xor, bitsOf_testBit, bitsOf_testBit]; simp [hj]
theorem or_bit {n : Nat} {p q : Nat → Bool} {j : Nat} (b : Bool) (hj : j < n) (hq : ∀ i, i < n → q i = (p i || (decide (i = j) && b))) : bitsOf n p ||| (if b then 2 ^ j else 0) = bitsOf n q := by
  refine eq_bitsOf (Nat.or_lt_two_pow (bitsOf_lt n p) ?_) fun i hi => ?_
  · split
    · exact Nat.pow_lt_pow_right (by omega) hj
    · exact Nat.two_pow_pos n
  · rw [Nat.testBit_or, bitsOf_testBit, hq i hi]
    cases b
    · simp [hi]
    · simp only [if_true, Nat.testBit_two_pow, hi, decide_true, Bool.true_and, Bool.and_true]
      congr 1
      by_cases e : i = j
      · subst e; simp
      · simp [e, Ne.symm e]

/-- A word of eight digits of the base 256. -/
def digs (d : Nat → Nat) : Nat → Nat
  | 0 => 0
  | n + 1 => 2 ^ (8 * n) * d n + digs d n
theorem digs_lt (d : Nat → Nat) (hd : ∀ i, d i < 256) (n : Nat) : digs d n < 2 ^ (8 * n) := by
  induction n with
  | zero => simp [digs]
  | succ n ih =>
    unfold digs
    have e : 2 ^ (8 * (n + 1)) = 2 ^ (8 * n) * 256 := by rw [Nat.mul_add, Nat.pow_add]
    have h1 : 2 ^ (8 * n) * d n ≤ 2 ^ (8 * n) * 255 := Nat.mul_le_mul_left _ (by have := hd n; omega)
    rw [e]
    have : 2 ^ (8 * n) * 256 = 2 ^ (8 * n) * 255 + 2 ^ (8 * n) := by omega
    omega
theorem digs_testBit (d : Nat → Nat) (hd : ∀ i, d i < 256) (n j : Nat) (hj : j < 8 * n) : (digs d n).testBit j = (d (j / 8)).testBit (j % 8) := by
  induction n with
  | zero => omega
  | succ n ih =>
    unfold digs
    rw [Nat.testBit_two_pow_mul_add _ (digs_lt d hd n)]
    by_cases h : j < 8 * n
    · rw [if_pos h]; exact ih h
    · rw [if_neg h, show j / 8 = n by omega, show j % 8 = j - 8 * n by omega]
theorem digs_mul (d : Nat → Nat) (p n : Nat) : digs d n * p = digs (fun i => d i * p) n := by
  induction n with
  | zero => simp [digs]
  | succ n ih => unfold digs; rw [Nat.add_mul, ih, Nat.mul_assoc]

/-- The planes of eight bytes. -/
def planes (v : Nat → Nat) : Nat := bitsOf 64 fun j => (v (j % 8)).testBit (j / 8)
/-- The moves of one column. -/
def moves (c : Nat) : Nat := bitsOf 64 fun j => decide (j % 8 = 0) && c.testBit (j / 8)
theorem moves_digs (c : Nat) : moves c = digs (fun i => if c.testBit i then 1 else 0) 8 := by
  have hd : ∀ i, (if c.testBit i then 1 else 0) < 256 := by intro i; split <;> omega
  refine (eq_bitsOf (digs_lt _ hd 8) fun j hj => ?_).symm
  rw [digs_testBit _ hd 8 j hj]
  by_cases h : c.testBit (j / 8)
  · rw [if_pos h, one_testBit]; simp [h]
  · rw [if_neg h]; simp [h]
theorem moves_mul (c p : Nat) (hp : p < 256) : moves c * p = bitsOf 64 fun j => c.testBit (j / 8) && p.testBit (j % 8) := by
  rw [moves_digs, digs_mul]
  have hd : ∀ i, (if c.testBit i then 1 else 0) * p < 256 := by intro i; split <;> omega
  refine eq_bitsOf (digs_lt _ hd 8) fun j hj => ?_
  rw [digs_testBit _ hd 8 j hj]
  by_cases h : c.testBit (j / 8)
  · simp [h]
  · simp [h]
/-- A plane out of the planes. -/
theorem plane_at (v : Nat → Nat) (b : Nat) (hb : b < 8) (k : Nat) (hk : k < 8) : (planes v / 2 ^ (8 * b) % 256).testBit k = (v k).testBit b := by
  rw [show (256 : Nat) = 2 ^ 8 from rfl, Nat.testBit_mod_two_pow, Nat.testBit_div_two_pow, planes, bitsOf_testBit]
  rw [show (k + 8 * b) % 8 = k by omega, show (k + 8 * b) / 8 = b by omega]
  simp [hk, show k + 8 * b < 64 by omega]
/-- The sum of the moved planes, behind n of them. -/
def moved (f : Nat) (w : Nat) : Nat → Nat
  | 0 => 0
  | n + 1 => moved f w n ^^^ moves (times f (2 ^ n)) * (w / 2 ^ (8 * n) % 256)
theorem bitsOf_step (n : Nat) (p : Nat → Bool) : bitsOf (n + 1) p = bitsOf n p ^^^ (if p n then 2 ^ n else 0) := by
  refine (eq_bitsOf (n := n + 1) (p := p) ?_ fun j hj => ?_).symm
  · refine Nat.xor_lt_two_pow (Nat.lt_of_lt_of_le (bitsOf_lt n p) (Nat.pow_le_pow_right (by omega) (by omega))) ?_
    split
    · exact Nat.pow_lt_pow_right (by omega) (by omega)
    · exact Nat.two_pow_pos _
  · rw [Nat.testBit_xor, bitsOf_testBit]
    by_cases e : j = n
    · subst e; cases p j <;> simp
    · have : j < n := by omega
      have hne : ¬ n = j := by omega
      split <;> simp [this, hne]
theorem times_bits (f n : Nat) (hf : f < 256) (p : Nat → Bool) : times f (bitsOf (n + 1) p) = times f (bitsOf n p) ^^^ (if p n then times f (2 ^ n) else 0) := by
  rw [bitsOf_step, times_xor_r f _ _ hf]
  split
  · rfl
  · rw [show times f 0 = 0 from times_zero f hf]
theorem moved_bits (f : Nat) (hf : f < 256) (v : Nat → Nat) (n : Nat) (hn : n ≤ 8) :
    moved f (planes v) n = bitsOf 64 fun j => (times f (bitsOf n (v (j % 8)).testBit)).testBit (j / 8) := by
  induction n with
  | zero =>
    rw [moved]
    refine eq_bitsOf (n := 64) (Nat.two_pow_pos 64) fun j _ => ?_
    rw [bitsOf, times_zero f hf]; simp
  | succ n ih =>
    have hp : planes v / 2 ^ (8 * n) % 256 < 256 := Nat.mod_lt _ (by omega)
    rw [moved, ih (by omega), moves_mul _ _ hp, xor_bitsOf]
    refine bitsOf_congr fun j hj => ?_
    rw [plane_at v n (by omega) (j % 8) (by omega), times_bits f n hf, Nat.testBit_xor]
    congr 1
    cases (v (j % 8)).testBit n <;> simp
/-- ████ The moved planes are those of the products. ████ -/
theorem moved_planes (f : Nat) (hf : f < 256) (v : Nat → Nat) (hv : ∀ k, v k < 256) : moved f (planes v) 8 = planes fun k => times f (v k) := by
  rw [moved_bits f hf v 8 (Nat.le_refl _)]
  exact bitsOf_congr fun j _ => by rw [bitsOf_self (n := 8) (hv _)]
theorem planes_xor (u v : Nat → Nat) : planes u ^^^ planes v = planes fun k => u k ^^^ v k := by
  unfold planes
  rw [xor_bitsOf]
  exact bitsOf_congr fun j _ => by rw [Nat.testBit_xor]
theorem moved_lt (f w : Nat) (n : Nat) : moved f w n < 2 ^ 64 := by
  induction n with
  | zero => exact Nat.two_pow_pos _
  | succ n ih =>
    unfold moved
    refine Nat.xor_lt_two_pow ih ?_
    rw [moves_mul _ _ (Nat.mod_lt _ (by omega))]
    exact bitsOf_lt _ _
end Go.Proofs.YtokmllopbfmadaaDoor.Gf

/- Slices of bytes whose room is no less than their length: such as may be cut again. -/
namespace Go.Proofs.YtokmllopbfmadaaDoor.Mem
open Go.RowKit
def BsC (w : World) (v : Value) (l : List Nat) : Prop :=
  ∃ ao ex, v = .slice ao l.length (l.length + ex) ∧ (l = [] ∨ ∃ b off, ao = some ⟨b, off, none⟩ ∧ b < w.heap.size ∧ ∀ k, (h : k < l.length) → w.cell? ⟨b, off + k, none⟩ = some (.int .u8 (l[k] : Nat)))
def RowsC (w : World) (v : Value) (rows : List (List Nat)) : Prop :=
  ∃ ao ex, v = .slice ao rows.length (rows.length + ex) ∧ (rows = [] ∨ ∃ b off, ao = some ⟨b, off, none⟩ ∧ b < w.heap.size ∧ ∀ k, (h : k < rows.length) → ∃ u, w.cell? ⟨b, off + k, none⟩ = some u ∧ BsC w u rows[k])
section
variable {w w' : World} {v : Value}
theorem BsC.bs {l : List Nat} (h : BsC w v l) : BsAt w v l := by
  obtain ⟨ao, ex, rfl, h⟩ := h
  exact ⟨ao, _, rfl, h⟩
theorem BsC.to {l : List Nat} (h : BsC w v l) (hb : Below w.heap.size w w') : BsC w' v l := by
  obtain ⟨ao, cap, rfl, h⟩ := h
  refine ⟨ao, cap, rfl, ?_⟩
  rcases h with h | ⟨b, off, rfl, hlt, hc⟩
  · exact .inl h
  · exact .inr ⟨b, off, rfl, Nat.lt_of_lt_of_le hlt hb.size, fun k hk => by rw [hb.cell (p := ⟨b, off + k, none⟩) hlt]; exact hc k hk⟩
theorem RowsC.rows {rows : List (List Nat)} (h : RowsC w v rows) : RowsAt w v rows := by
  obtain ⟨ao, cap, rfl, h⟩ := h
  refine ⟨ao, _, rfl, ?_⟩
  rcases h with h | ⟨b, off, rfl, hlt, hc⟩
  · exact .inl h
  · refine .inr ⟨b, off, rfl, hlt, fun k hk => ?_⟩
    obtain ⟨u, hu, hr⟩ := hc k hk
    exact ⟨u, hu, hr.bs⟩
theorem RowsC.to {rows : List (List Nat)} (h : RowsC w v rows) (hb : Below w.heap.size w w') : RowsC w' v rows := by
  obtain ⟨ao, cap, rfl, h⟩ := h
  refine ⟨ao, cap, rfl, ?_⟩
  rcases h with h | ⟨b, off, rfl, hlt, hc⟩
  · exact .inl h
  · refine .inr ⟨b, off, rfl, Nat.lt_of_lt_of_le hlt hb.size, fun k hk => ?_⟩
    obtain ⟨u, hu, hr⟩ := hc k hk
    exact ⟨u, by rw [hb.cell (p := ⟨b, off + k, none⟩) hlt]; exact hu, hr.to hb⟩
theorem RowsC.pos {rows : List (List Nat)} (h : RowsC w v rows) (hl : 0 < rows.length) : ∃ b off cap, v = .slice (some ⟨b, off, none⟩) rows.length cap ∧ b < w.heap.size ∧ ∀ k, (h : k < rows.length) → ∃ u, w.cell? ⟨b, off + k, none⟩ = some u ∧ BsC w u rows[k] := by
  obtain ⟨ao, cap, rfl, h1⟩ := h
  rcases h1 with h | ⟨b, off, rfl, hlt, hc⟩
  · subst h; simp at hl
  · exact ⟨b, off, _, rfl, hlt, hc⟩
end
theorem OwnAt.bsC {w : World} {u : Value} {l : List Nat} (h : OwnAt w u l) : BsC w u l := by
  obtain ⟨b, rfl, hb⟩ := h
  exact ⟨_, 0, rfl, .inr ⟨b, 0, rfl, hb.lt, fun k hk => by rw [Nat.zero_add, hb.cell k, bytesV_at hk]⟩⟩
theorem Filled.rowsC {w : World} {B n : Nat} {f : Nat → List Nat} (h : Filled w B n n f) {rows : List (List Nat)} (hr : rows.length = n) (he : ∀ k, (h : k < rows.length) → rows[k] = f k) : RowsC w (.slice (some ⟨B, 0, none⟩) n n) rows := by
  refine ⟨_, 0, by rw [hr, Nat.add_zero], .inr ⟨B, 0, rfl, h.lt, fun k hk => ?_⟩⟩
  obtain ⟨u, hu, ho⟩ := h.row (k := k) (by omega)
  exact ⟨u, by rw [Nat.zero_add]; exact hu, by rw [he k hk]; exact ho.bsC⟩
end Go.Proofs.YtokmllopbfmadaaDoor.Mem

/- Pairs of slots counted in a map whose keys are arrays of two numbers. -/
namespace Go.Proofs.YtokmllopbfmadaaDoor.Plans
open Go.RowKit Mem

theorem keyU : Tryd.prog.underlying 159 = some (.array 2 3) := by kernel_rfl
theorem mapU : Tryd.prog.underlying 137 = some (.map 159 3) := by kernel_rfl
theorem pairLaw : WideMaps.KeyLaw Tryd.prog 159 := deep_law (m := 2) (by decide) (by kernel_rfl) (by kernel_rfl) (by kernel_rfl)
theorem pairKeyed : Maps.Keyed Tryd.prog 159 := Maps.Keyed.of_law pairLaw
/-- The pair as a key. -/
def kv (x y : Int) : Value := .agg #[.int .i64 x, .int .i64 y]
def kl (x y : Int) : Lit := .string (keyBytes [.int .i64 x, .int .i64 y])
def okI (x : Int) : Prop := (Lit.int .i64 x).wf = true
theorem keyType2 : Tryd.prog.keyType 159 = true := by kernel_rfl
theorem cells2 : Tryd.prog.cellsOf 159 = 2 := by kernel_rfl
theorem cells1 : Tryd.prog.cellsOf 3 = 1 := by kernel_rfl
theorem typesPos : decide (0 < Tryd.prog.types.size) = true := by kernel_rfl
theorem typesN : ∃ n, Tryd.prog.types.size = n + 1 := ⟨Tryd.prog.types.size - 1, by have := of_decide_eq_true typesPos; omega⟩
theorem len2 {α : Type} (l : List α) (h : l.length = 2) : ∃ a b, l = [a, b] := by
  cases l with
  | nil => simp at h
  | cons a l =>
    cases l with
    | nil => simp at h
    | cons b l =>
      cases l with
      | nil => exact ⟨a, b, rfl⟩
      | cons c l => simp at h
theorem intU : Tryd.prog.underlying 3 = some (.int .i64) := Tryd.underlying3
theorem keyLits_int (n : Nat) (v : Value) (L : List Lit) (h : Tryd.prog.keyLits (n + 1) 3 [v] = some L) : ∃ x, v = .int .i64 x ∧ okI x ∧ L = [.int .i64 x] := by
  unfold Program.keyLits at h
  simp only [intU] at h
  cases v <;> simp at h
  obtain ⟨⟨rfl, hw⟩, rfl⟩ := h
  exact ⟨_, rfl, hw, rfl⟩
theorem keyLits_int' (n : Nat) (x : Int) (hx : okI x) : Tryd.prog.keyLits (n + 1) 3 [.int .i64 x] = some [.int .i64 x] := by
  unfold okI at hx
  unfold Program.keyLits
  simp only [intU]
  simp [hx]
theorem keyLits_pair (n : Nat) (a b : Value) : Tryd.prog.keyLits (n + 2) 159 [a, b] = (Tryd.prog.keyLits (n + 1) 3 [a]).bind fun la => (Tryd.prog.keyLits (n + 1) 3 [b]).map fun lb => la ++ lb := by
  have e : Tryd.prog.keyLits (n + 2) 159 [a, b] = (if [a, b].length = Tryd.prog.cellsOf 159 then ((List.range 2).mapM fun i => Tryd.prog.keyLits (n + 1) 3 (([a, b].drop (i * Tryd.prog.cellsOf 3)).take (Tryd.prog.cellsOf 3))).map List.flatten else none) := by
    conv => lhs; unfold Program.keyLits
    simp only [keyU]
  rw [e]
  simp only [cells2, cells1, List.length_cons, List.length_nil, if_true]
  rw [show List.range 2 = [0, 1] from rfl]
  simp only [List.mapM_cons, List.mapM_nil, Nat.zero_mul, Nat.one_mul, List.drop_zero, List.drop_succ_cons, List.take_succ_cons, List.take_zero]
  cases Tryd.prog.keyLits (n + 1) 3 [a] <;> cases Tryd.prog.keyLits (n + 1) 3 [b] <;> simp
theorem keyLits2 (x y : Int) (hx : okI x) (hy : okI y) : Tryd.prog.keyLits (Tryd.prog.types.size + 1) 159 [.int .i64 x, .int .i64 y] = some [.int .i64 x, .int .i64 y] := by
  obtain ⟨n, hn⟩ := typesN
  rw [hn, keyLits_pair, keyLits_int' n x hx, keyLits_int' n y hy]
  rfl
theorem key_mk (x y : Int) (hx : okI x) (hy : okI y) : keyOf Tryd.prog 159 (kv x y) = some (kl x y) := by
  unfold keyOf
  simp only [keyU, keyType2, Bool.true_and]
  have hf : (kv x y).formed Tryd.prog 159 = true := by simp only [kv, Value.formed, keyU]; rw [cells2]; rfl
  rw [if_pos hf]
  show (Option.map _ (Tryd.prog.keyLits _ _ [.int .i64 x, .int .i64 y])) = _
  rw [keyLits2 x y hx hy]; rfl
theorem key_inv (v : Value) (l : Lit) (h : keyOf Tryd.prog 159 v = some l) : ∃ x y : Int, v = kv x y ∧ okI x ∧ okI y ∧ l = kl x y := by
  obtain ⟨xs, L, rfl, hl, rfl⟩ := keyOf_top (by kernel_rfl) h
  obtain ⟨n, hn⟩ := typesN
  obtain ⟨cs⟩ := xs
  rw [hn] at hl
  have hlen : cs.length = 2 := by
    unfold Program.keyLits at hl
    simp only [keyU, cells2] at hl
    by_cases h2 : cs.length = 2
    · exact h2
    · rw [if_neg h2] at hl; cases hl
  obtain ⟨a, b, rfl⟩ := len2 cs hlen
  change Tryd.prog.keyLits (n + 2) 159 [a, b] = some L at hl
  rw [keyLits_pair] at hl
  cases h1 : Tryd.prog.keyLits (n + 1) 3 [a] with
  | none => rw [h1] at hl; cases hl
  | some la =>
    cases h2 : Tryd.prog.keyLits (n + 1) 3 [b] with
    | none => rw [h1, h2] at hl; cases hl
    | some lb =>
      rw [h1, h2] at hl
      obtain ⟨x, rfl, hx, rfl⟩ := keyLits_int n a la h1
      obtain ⟨y, rfl, hy, rfl⟩ := keyLits_int n b lb h2
      obtain rfl := Option.some.inj hl
      exact ⟨x, y, rfl, hx, hy, rfl⟩
theorem kl_inj {x y x' y' : Int} (hx : okI x) (hy : okI y) (hx' : okI x') (hy' : okI y') (h : kl x y = kl x' y') : x = x' ∧ y = y' := by
  have h1 := key_mk x y hx hy
  have h2 := key_mk x' y' hx' hy'
  rw [h] at h1
  have := pairLaw.inj h1 h2
  simp only [kv, Value.agg.injEq, Array.mk.injEq, List.cons.injEq, Value.int.injEq] at this
  exact ⟨this.1.2, this.2.1.2⟩
theorem okN (x : Nat) (h : x < 9223372036854775808) : okI (x : Int) := by
  have h1 : IntKind.i64.min = -9223372036854775808 := rfl
  have h2 : IntKind.i64.max = 9223372036854775807 := rfl
  unfold okI; simp [Lit.wf, h1, h2]; omega
theorem kl_key {x y : Int} (hx : okI x) (hy : okI y) : WideAt.IsKeyLit (kl x y) := pairKeyed.key (key_mk x y hx hy)

/-- Block b counts the pairs: f at each. -/
def PM (w : World) (b n : Nat) (f : Nat → Nat → Int) : Prop :=
  ∃ D : DataW Unit, w.ownsMap Tryd.prog 159 (plainElem Tryd.prog 3) b n D ∧ (∀ x y : Nat, okI x → okI y → D.atKey (kl x y) (.lit (.int .i64 0)) = .lit (.int .i64 (f x y))) ∧
    ∀ l, Maps.has D l = true → ∃ x y : Nat, x < 1000000 ∧ y < 1000000 ∧ l = kl x y
theorem PM.block {w w' : World} {b n : Nat} {f : Nat → Nat → Int} (h : PM w b n f) (e : w'.heap[b]? = w.heap[b]?) : PM w' b n f := by
  obtain ⟨D, ⟨es, clock, hb, r⟩, h2⟩ := h
  exact ⟨D, ⟨es, clock, e.trans hb, r⟩, h2⟩
theorem PM.lt {w : World} {b n : Nat} {f : Nat → Nat → Int} (h : PM w b n f) : b < w.heap.size := by
  obtain ⟨D, h1, _⟩ := h; exact h1.lt
theorem PM.to {w w' : World} {b n : Nat} {f : Nat → Nat → Int} (h : PM w b n f) (hb : Below w.heap.size w w') : PM w' b n f := h.block (hb.block b h.lt)
theorem PM.alloc {w : World} {b n : Nat} {f : Nat → Nat → Int} (h : PM w b n f) (o : Obj) : PM (w.alloc o) b n f := h.to ((Below.refl _ _).alloc (Nat.le_refl _) o)
theorem PM.drew {w : World} {b n : Nat} {f : Nat → Nat → Int} (h : PM w b n f) : PM w.drew b n f := h.block rfl
theorem PM.mono {w : World} {b n m : Nat} {f : Nat → Nat → Int} (h : PM w b n f) (hn : n ≤ m) : PM w b m f := by
  obtain ⟨D, h1, h2⟩ := h; exact ⟨D, h1.mono hn, h2⟩
theorem PM.eq {w : World} {b n : Nat} {f g : Nat → Nat → Int} (h : PM w b n f) (e : ∀ x y, f x y = g x y) : PM w b n g := by
  obtain ⟨D, h1, h2, h3⟩ := h; exact ⟨D, h1, fun x y hx hy => by rw [← e]; exact h2 x y hx hy, h3⟩
theorem PM.ne {w : World} {b n g : Nat} {f : Nat → Nat → Int} {t : TypeId} {us : List Value} (h : PM w b n f) (hg : Blk w g t us) : g ≠ b := by
  obtain ⟨D, ⟨es, clock, hb, _⟩, _⟩ := h
  rintro rfl
  unfold Blk at hg
  rw [hb] at hg; cases hg
theorem PM.made (w : World) : PM (w.alloc (.map #[] 0)) w.heap.size 0 (fun _ _ => 0) :=
  ⟨.map [], World.ownsMap_made _ _ _ _, fun x y _ _ => by simp [DataW.atKey], fun l h => by simp [Maps.has] at h⟩
/-- One place of the counts anew. -/
def upd2 (f : Nat → Nat → Int) (a b : Nat) (c : Int) : Nat → Nat → Int := fun x y => if x = a ∧ y = b then c else f x y
theorem zeroI (u : World) : (zeroValue 3).run Tryd.prog u = .ok (.int .i64 0) u := by
  simp [zeroValue, Tryd.t3]
set_option maxRecDepth 100000 in
theorem PM.look {w : World} {b n : Nat} {f : Nat → Nat → Int} (h : PM w b n f) (x y : Nat) (hx : okI x) (hy : okI y) : (Instr.lookup 137 (.map (some b)) (kv x y) false).run Tryd.prog w = .ok (.int .i64 (f x y)) w ∧ okI (f x y) := by
  obtain ⟨D, h1, h2, _⟩ := h
  obtain ⟨c, hr, ha, hw⟩ := h1.lookup_int pairKeyed mapU intU (zeroI w) (key_mk x y hx hy)
  rw [h2 x y hx hy] at ha
  have : f x y = c := by injection ha with ha; injection ha
  rw [this]
  exact ⟨hr, hw⟩
set_option maxRecDepth 100000 in
theorem PM.put {w w' : World} {b n : Nat} {f : Nat → Nat → Int} (h : PM w b n f) (x y : Nat) (hx : x < 1000000) (hy : y < 1000000) (c : Int) (hc : okI c) (hn : n < maxLen)
    (hr : (Instr.mapUpdate 137 (.map (some b)) (kv x y) (.int .i64 c)).run Tryd.prog w = .ok () w') : PM w' b (n + 1) (upd2 f x y c) ∧ w.grownBy w' (some b) := by
  obtain ⟨D, h1, h2, h3⟩ := h
  have ox := okN x (by omega)
  have oy := okN y (by omega)
  obtain ⟨w2, hr2, ho, hg⟩ := h1.update pairKeyed mapU hn (key_mk x y ox oy) (plainElem_int intU hc)
  have e : w2 = w' := by rw [hr] at hr2; injection hr2 with _ e; exact e.symm
  subst e
  have hm : Maps.IsMap D := by obtain ⟨es, e, _⟩ := h1.entries pairKeyed; exact ⟨es, e⟩
  refine ⟨⟨_, ho, fun x' y' hx' hy' => ?_, fun l hl => ?_⟩, hg⟩
  · unfold upd2
    by_cases e : x' = x ∧ y' = y
    · obtain ⟨rfl, rfl⟩ := e
      rw [if_pos ⟨rfl, rfl⟩, Maps.atKey_put_same hm (kl_key ox oy)]
    · rw [if_neg e, Maps.atKey_put_other (fun e2 => e (by have := kl_inj hx' hy' ox oy e2; omega))]
      exact h2 x' y' hx' hy'
  · by_cases e : l = kl x y
    · exact ⟨x, y, hx, hy, e⟩
    · rw [Maps.has_put_other e] at hl
      exact h3 l hl
theorem setBlock_twice (w : World) (b : Nat) (o o' : Obj) : ChangeMaps.setBlock (ChangeMaps.setBlock w b o) b o' = ChangeMaps.setBlock w b o' := by
  unfold ChangeMaps.setBlock; simp
theorem setBlock_self (w : World) (b : Nat) (o : Obj) (h : w.heap[b]? = some o) : ChangeMaps.setBlock w b o = w := by
  unfold ChangeMaps.setBlock
  have : w.heap.setIfInBounds b o = w.heap := by
    apply Array.ext
    · simp
    · intro i h1 h2
      rw [Array.getElem_setIfInBounds]
      split
      · rename_i e
        subst e
        rw [Array.getElem?_eq_getElem h2] at h
        exact (Option.some.inj h).symm
      · rfl
  rw [this]
set_option maxRecDepth 100000 in
/-- The entry is laid: the map reads as before. -/
theorem PM.entry {w : World} {b n : Nat} {f : Nat → Nat → Int} (h : PM w b n f) (x y : Nat) (hx : x < 1000000) (hy : y < 1000000) (hn : n < maxLen) {v : Value} {w1 : World}
    (hr : (Instr.mapEntry 137 (.map (some b)) (kv x y)).run Tryd.prog w = .ok v w1) : PM w1 b (n + 1) f := by
  have ox := okN x (by omega)
  have oy := okN y (by omega)
  have h' := h
  obtain ⟨D, ⟨es, clock, hb, F, hs, hD⟩, h2, h3⟩ := h'
  rcases pairLaw.find w (key_mk x y ox oy) es.toList F.keys with ⟨f1, f2⟩ | ⟨j, e0, f1, f2, f3⟩
  · have e1 : (Instr.mapEntry 137 (.map (some b)) (kv x y)).run Tryd.prog w = .ok (.tuple #[.int .i64 0, goInt clock]) (ChangeMaps.setBlock w b (.map (es.push ⟨kv x y, .int .i64 0, clock⟩) (clock + 1))) := by
      simp [Instr.mapEntry, run_underlying mapU, MapKept.run_getObj_map hb, pairLaw.check w false (key_mk x y ox oy), f1, MapKept.run_setObj_map _ hb, Result.andThen, ChangeMaps.setBlock]
    have e2 : (Instr.mapUpdate 137 (.map (some b)) (kv x y) (.int .i64 0)).run Tryd.prog w = .ok () (ChangeMaps.setBlock w b (.map (es.push ⟨kv x y, .int .i64 0, clock⟩) (clock + 1))) := by
      simp [Instr.mapUpdate, run_underlying mapU, MapKept.run_getObj_map hb, pairLaw.check w false (key_mk x y ox oy), f1, MapKept.run_setObj_map _ hb, Result.andThen, ChangeMaps.setBlock]
    have e3 : (Instr.lookup 137 (.map (some b)) (kv x y) false).run Tryd.prog w = .ok (.int .i64 0) w := by
      simp [Instr.lookup, run_underlying mapU, MapKept.run_getObj_map hb, pairLaw.check w es.isEmpty (key_mk x y ox oy), f1, Result.andThen]
    have e4 := (h.look x y ox oy).1
    rw [e3] at e4
    have e5 : f x y = 0 := by injection e4 with e4; injection e4 with _ e4; exact e4.symm
    rw [e1] at hr
    injection hr with _ hr
    subst hr
    refine (h.put x y hx hy 0 (okN 0 (by decide)) hn e2).1.eq fun a c => ?_
    unfold upd2
    split
    · rename_i e; rw [e.1, e.2, e5]
    · rfl
  · have hj : es[j]? = some e0 := by simpa using f2
    have hsame : es.modify j (fun e => { e with key := kv x y }) = es := by
      apply Array.ext'
      rw [Array.toList_modify, ChangeMaps.modify_eq_set _ _ _ _ f2]
      have : ({ e0 with key := kv x y } : MapEntry) = e0 := by rw [← f3]
      rw [this]
      exact WideElems.set_self _ _ _ f2
    have e1 : (Instr.mapEntry 137 (.map (some b)) (kv x y)).run Tryd.prog w = .ok (.tuple #[e0.val, goInt e0.born]) (ChangeMaps.setBlock w b (.map es clock)) := by
      simp [Instr.mapEntry, run_underlying mapU, MapKept.run_getObj_map hb, pairLaw.check w false (key_mk x y ox oy), f1, hj, f3, pairLaw.stays w (key_mk x y ox oy), hsame, MapKept.run_setObj_map _ hb, Result.andThen, ChangeMaps.setBlock]
    rw [e1, setBlock_self w b _ hb] at hr
    injection hr with _ hr
    subst hr
    exact h.mono (by omega)
set_option maxRecDepth 100000 in
/-- 'm[k] += c' in its three operations, whichever comes first. -/
theorem PM.step {w : World} {b n : Nat} {f : Nat → Nat → Int} (h : PM w b n f) (x y : Nat) (hx : x < 1000000) (hy : y < 1000000) (c : Int) (hc : okI c) (hn : n < maxLen) :
    ∃ (v0 : Value) (st : Nat) (w1 w2 : World), (Instr.mapEntry 137 (.map (some b)) (kv x y)).run Tryd.prog w = .ok (.tuple #[v0, goInt st]) w1 ∧
      (Instr.lookup 137 (.map (some b)) (kv x y) false).run Tryd.prog w = .ok (.int .i64 (f x y)) w ∧
      (Instr.lookup 137 (.map (some b)) (kv x y) false).run Tryd.prog w1 = .ok (.int .i64 (f x y)) w1 ∧
      (Instr.entryStore 137 (.map (some b)) (goInt st) (.int .i64 c)).run Tryd.prog w1 = .ok () w2 ∧
      PM w2 b (n + 1) (upd2 f x y c) ∧ w.grownBy w2 (some b) := by
  have ox := okN x (by omega)
  have oy := okN y (by omega)
  have hlk := h.look x y ox oy
  have h' := h
  obtain ⟨D, ⟨es, clock, hb, F, hs, hD⟩, h2, h3⟩ := h'
  obtain ⟨v0, st, es1, clock1, e1, e2, e3⟩ := WideElems.entry_then_store pairLaw mapU (z := .int .i64 0) zeroI hb F (key_mk x y ox oy)
  have hb1 : (ChangeMaps.setBlock w b (.map es1 clock1)).heap[b]? = some (.map es1 clock1) := ChangeMaps.heap_setBlock_same hb _
  obtain ⟨es2, clock2, r1, r2⟩ := e3 _ (.int .i64 c) hb1
  rw [setBlock_twice] at r1
  obtain ⟨p1, p2⟩ := h.put x y hx hy c hc hn r2
  exact ⟨v0, st, _, _, e1, hlk.1, ((h.entry x y hx hy hn e1).look x y ox oy).1, r1, p1, p2⟩
end Go.Proofs.YtokmllopbfmadaaDoor.Plans

namespace Go.Proofs.YtokmllopbfmadaaDoor.Plans
open Go.RowKit Mem

/-- The slice v reads as these numbers. -/
def IntsAt (w : World) (v : Value) (l : List Nat) : Prop :=
  ∃ ao cap, v = .slice ao l.length cap ∧ l.length ≤ cap ∧ (l = [] ∨ ∃ g us, ao = some ⟨g, 0, none⟩ ∧ Blk w g 3 us ∧ ∀ k, (h : k < l.length) → us[k]? = some (.int .i64 (l[k] : Nat)))
theorem IntsAt.of_owns {w : World} {base : Nat} {v : Value} {l : List Nat} (h : w.ownsRow base 3 1 v l.length (intsV l)) : IntsAt w v l := by
  obtain ⟨hl, h2⟩ := h
  rcases h2 with ⟨rfl, h0⟩ | ⟨g, cap, cur, rfl, hg, hh, hcap, _, _, ht⟩
  · exact ⟨none, 0, by rw [h0], by omega, .inl (List.eq_nil_of_length_eq_zero h0)⟩
  · refine ⟨_, cap, rfl, hcap, .inr ⟨g, cur.toList, rfl, by unfold Blk; rw [hh], fun k hk => ?_⟩⟩
    rw [Nat.mul_one] at ht
    have : (cur.toList.take l.length)[k]? = some (.int .i64 (l[k] : Nat)) := by rw [ht]; simp [intsV, hk]
    rw [List.getElem?_take_of_lt hk] at this
    exact this
def stepCells (ss : List Stp) : List Value := ss.flatMap Stp.cells
theorem stepCells_add (a b : List Stp) : stepCells (a ++ b) = stepCells a ++ stepCells b := by simp [stepCells]
theorem flat_get (ss : List Stp) : ∀ (k r : Nat) (h : k < ss.length), r < 3 → (stepCells ss)[k * 3 + r]? = (ss[k].cells)[r]? := by
  induction ss with
  | nil => intro k r h; simp at h
  | cons e es ih =>
    intro k r h hr
    have hl : e.cells.length = 3 := rfl
    unfold stepCells at ih ⊢
    rw [List.flatMap_cons]
    cases k with
    | zero => rw [Nat.zero_mul, Nat.zero_add, List.getElem?_append_left (by omega)]; rfl
    | succ k =>
      rw [List.getElem?_append_right (by omega), show (k + 1) * 3 + r - e.cells.length = k * 3 + r by omega]
      exact ih k r (by simpa using h) hr
theorem StepsAt.of_owns {w : World} {base : Nat} {v : Value} {ss : List Stp} (h : w.ownsRow base 73 3 v ss.length (stepCells ss)) : StepsAt w v ss := by
  obtain ⟨hl, h2⟩ := h
  rcases h2 with ⟨rfl, h0⟩ | ⟨g, cap, cur, rfl, hg, hh, _, _, _, ht⟩
  · exact ⟨none, 0, by rw [h0], .inl (List.eq_nil_of_length_eq_zero h0)⟩
  · refine ⟨_, cap, rfl, .inr ⟨g, cur, rfl, hh, fun k hk r hr => ?_⟩⟩
    rw [← flat_get ss k r hk hr, ← ht, List.getElem?_take_of_lt (by omega)]
    simp
theorem own_but {w w' : World} {S base size n : Nat} {e t : TypeId} {v : Value} {xs us : List Value} (h : w.ownsRow base e size v n xs) (hb : But S w w') (hS : Blk w S t us) (ht : e ≠ t) : w'.ownsRow base e size v n xs := by
  obtain ⟨h1, h2⟩ := h
  refine ⟨h1, ?_⟩
  rcases h2 with h2 | ⟨g, cap, cur, hv, hg, hh, r⟩
  · exact Or.inl h2
  · exact Or.inr ⟨g, cap, cur, hv, hg, by rw [hb.rest g (Blk.type_ne (w := w) (vs := cur.toList) (by unfold Blk; rw [hh]) hS ht) (lt_of_block hh)]; exact hh, r⟩
theorem IntsAt.to {w w' : World} {u : Value} {l : List Nat} (hi : IntsAt w u l) (hb : Below w.heap.size w w') : IntsAt w' u l := by
  obtain ⟨ao, cap, rfl, hcap, hx⟩ := hi
  refine ⟨ao, cap, rfl, hcap, ?_⟩
  rcases hx with hx | ⟨g, us, rfl, h, hc⟩
  · exact .inl hx
  · exact .inr ⟨g, us, rfl, h.to hb, hc⟩
end Go.Proofs.YtokmllopbfmadaaDoor.Plans
