/- Sums over unknowns, equations, and what taking one unknown out of all others but one keeps. Nothing of the program. -/
import Derived.Test.YtmlnejlhgbonpaaDoorCauchy
namespace Go.Proofs.YtmlnejlhgbonpaaDoor.Gf

/-- The sum of g 0 .. g (n - 1). -/
def xs (g : Nat → Nat) : Nat → Nat
  | 0 => 0
  | n + 1 => xs g n ^^^ g n
theorem xs_lt (g : Nat → Nat) (n : Nat) (h : ∀ k, k < n → g k < 256) : xs g n < 256 := by
  induction n with
  | zero => simp [xs]
  | succ n ih => exact xor_lt (ih fun k hk => h k (by omega)) (h n (by omega))
theorem xs_congr {g h : Nat → Nat} {n : Nat} (e : ∀ k, k < n → g k = h k) : xs g n = xs h n := by
  induction n with
  | zero => rfl
  | succ n ih => rw [xs, xs, ih fun k hk => e k (by omega), e n (by omega)]
theorem xs_xor (g h : Nat → Nat) (n : Nat) : xs (fun k => g k ^^^ h k) n = xs g n ^^^ xs h n := by
  induction n with
  | zero => simp [xs]
  | succ n ih => rw [xs, xs, xs, ih, xor4]
theorem xs_zero (g : Nat → Nat) (n : Nat) (h : ∀ k, k < n → g k = 0) : xs g n = 0 := by
  induction n with
  | zero => rfl
  | succ n ih => rw [xs, ih fun k hk => h k (by omega), h n (by omega)]; rfl
theorem xs_one (g : Nat → Nat) (n j : Nat) (hj : j < n) (h : ∀ k, k < n → k ≠ j → g k = 0) : xs g n = g j := by
  induction n with
  | zero => omega
  | succ n ih =>
    rw [xs]
    by_cases e : j = n
    · subst e; rw [xs_zero g j fun k hk => h k (by omega) (by omega), Nat.zero_xor]
    · rw [ih (by omega) fun k hk hn => h k (by omega) hn, h n (by omega) (by omega), Nat.xor_zero]
theorem xs_two (g : Nat → Nat) (n i j : Nat) (hi : i < n) (hj : j < n) (hij : i ≠ j) (h : ∀ k, k < n → k ≠ i → k ≠ j → g k = 0) : xs g n = g i ^^^ g j := by
  have e : xs g n = xs (fun k => (if k = i then g k else 0) ^^^ (if k = i then 0 else g k)) n := xs_congr fun k _ => by
    by_cases e : k = i <;> simp [e]
  rw [e, xs_xor, xs_one (fun k => if k = i then g k else 0) n i hi fun k _ hk => by simp [hk], xs_one (fun k => if k = i then 0 else g k) n j hj fun k hk hkj => by
    by_cases e : k = i
    · simp [e]
    · simp [e, h k hk e hkj]]
  simp [Ne.symm hij]
theorem xs_times (m : Nat) (g : Nat → Nat) (n : Nat) (hm : m < 256) : times m (xs g n) = xs (fun k => times m (g k)) n := by
  induction n with
  | zero => rw [xs, xs, times_zero m hm]
  | succ n ih => rw [xs, xs, times_xor_r m _ _ hm, ih]

/-- What an equation's left side comes to. -/
def dot (d : Nat) (f x : Nat → Nat) : Nat := xs (fun k => times (f k) (x k)) d
theorem dot_lt (d : Nat) (f x : Nat → Nat) (hf : ∀ k, k < d → f k < 256) : dot d f x < 256 := xs_lt _ _ fun k hk => times_lt _ _ (hf k hk)
theorem dot_congr {d : Nat} {f g x y : Nat → Nat} (e : ∀ k, k < d → f k = g k) (e' : ∀ k, k < d → x k = y k) : dot d f x = dot d g y := xs_congr fun k hk => by rw [e k hk, e' k hk]
theorem dot_less (d m : Nat) (f h x : Nat → Nat) (hm : m < 256) (hf : ∀ k, k < d → f k < 256) (hh : ∀ k, k < d → h k < 256) (hx : ∀ k, k < d → x k < 256) :
    dot d (fun k => f k ^^^ times m (h k)) x = dot d f x ^^^ times m (dot d h x) := by
  unfold dot
  rw [xs_times m _ _ hm, ← xs_xor]
  refine xs_congr fun k hk => ?_
  rw [times_xor_l _ _ _ (hf k hk) (times_lt _ _ hm), times_assoc m _ _ hm (hh k hk) (hx k hk)]
theorem dot_xor (d : Nat) (f x y : Nat → Nat) (hf : ∀ k, k < d → f k < 256) : dot d f (fun k => x k ^^^ y k) = dot d f x ^^^ dot d f y := by
  unfold dot
  rw [← xs_xor]
  exact xs_congr fun k hk => times_xor_r _ _ _ (hf k hk)

/-- Row q less so much of row r that the unknown j is gone; row r stays. -/
def outOf (F : Nat → Nat → Nat) (j r by_ : Nat) (G : Nat → Nat → Nat) : Nat → Nat → Nat :=
  fun q k => if q = r then G q k else G q k ^^^ times (times (F q j) by_) (G r k)

/-- The unknowns below j are done: each has an equation of its own, and stands in no other. -/
structure Gauss (d j : Nat) (F : Nat → Nat → Nat) (W : Nat → Nat) (U : Nat → Bool) : Prop where
  byte : ∀ r, r < d → ∀ k, k < d → F r k < 256
  wlt : ∀ i, i < j → W i < d
  inj : ∀ i, i < j → ∀ k, k < j → W i = W k → i = k
  one : ∀ i, i < j → F (W i) i ≠ 0
  zero : ∀ i, i < j → ∀ r, r < d → r ≠ W i → F r i = 0
  used : ∀ r, r < d → (U r = true ↔ ∃ i, i < j ∧ W i = r)
  ker : ∀ x : Nat → Nat, (∀ k, x k < 256) → (∀ r, r < d → dot d (F r) x = 0) → ∀ k, k < d → x k = 0

theorem Gauss.pivot {d j : Nat} {F : Nat → Nat → Nat} {W : Nat → Nat} {U : Nat → Bool} (h : Gauss d j F W U) (hj : j < d) : ∃ r, r < d ∧ U r = false ∧ F r j ≠ 0 := by
  apply Classical.byContradiction
  intro hno
  have hno : ∀ r, r < d → U r = false → F r j = 0 := by
    intro r hr hu
    apply Classical.byContradiction
    intro hf
    exact hno ⟨r, hr, hu, hf⟩
  let z : Nat → Nat := fun k => if k = j then 1 else if k < j then times (F (W k) j) (inv (F (W k) k)) else 0
  have zj : z j = 1 := by simp [z]
  have zk : ∀ k, k < j → z k = times (F (W k) j) (inv (F (W k) k)) := fun k hk => by simp [z, hk, show k ≠ j by omega]
  have zo : ∀ k, k ≠ j → ¬ k < j → z k = 0 := fun k h1 h2 => by simp [z, h1, h2]
  have hz := h.ker z (fun k => by
    by_cases e : k = j
    · rw [e, zj]; decide
    · by_cases e2 : k < j
      · rw [zk k e2]; exact times_lt _ _ (h.byte _ (h.wlt k e2) _ hj)
      · rw [zo k e e2]; decide) (fun r hr => ?_) j hj
  · rw [zj] at hz; cases hz
  · cases hu : U r
    · refine xs_zero _ _ fun k hk => ?_
      show times (F r k) (z k) = 0
      by_cases e : k = j
      · subst e; rw [hno r hr hu, zj]; rfl
      · by_cases e2 : k < j
        · have : F r k = 0 := h.zero k e2 r hr fun e => by
            have := (h.used r hr).2 ⟨k, e2, e.symm⟩
            rw [hu] at this; cases this
          rw [this, zk k e2, zero_times _ (times_lt _ _ (h.byte _ (h.wlt k e2) _ hj))]
        · rw [zo k e e2]; exact times_zero _ (h.byte r hr k hk)
    · obtain ⟨i, hi, rfl⟩ := (h.used r hr).1 hu
      have e : dot d (F (W i)) z = times (F (W i) i) (z i) ^^^ times (F (W i) j) (z j) := xs_two _ d i j (by omega) hj (by omega) fun k hk h1 h2 => by
        show times (F (W i) k) (z k) = 0
        by_cases e2 : k < j
        · rw [h.zero k e2 _ hr fun e => h1 (h.inj k e2 i hi e.symm), zk k e2, zero_times _ (times_lt _ _ (h.byte _ (h.wlt k e2) _ hj))]
        · rw [zo k h2 e2]; exact times_zero _ (h.byte _ hr k hk)
      have b1 := h.byte _ hr i (by omega)
      have b2 := h.byte _ hr j hj
      have b3 := inv_lt _ b1
      rw [e, zj, zk i hi, times_one _ b2, times_comm _ (inv (F (W i) i)) b2 b3, ← times_assoc _ _ _ b1 b3 b2, inv_right _ b1 (h.one i hi), one_times _ b2, Nat.xor_self]

theorem outOf_byte {d : Nat} {F G : Nat → Nat → Nat} {j r by_ L : Nat} (hF : ∀ q, q < d → F q j < 256) (hG : ∀ q, q < d → ∀ k, k < L → G q k < 256) : ∀ q, q < d → ∀ k, k < L → outOf F j r by_ G q k < 256 := by
  intro q hq k hk
  unfold outOf
  split
  · exact hG q hq k hk
  · exact xor_lt (hG q hq k hk) (times_lt _ _ (times_lt _ _ (hF q hq)))

/-- What solves the equations behind the step solves those ahead of it. -/
theorem outOf_back {d : Nat} {F : Nat → Nat → Nat} {V : Nat → Nat} {j r by_ : Nat} (hj : j < d) (hr : r < d) (hF : ∀ q, q < d → ∀ k, k < d → F q k < 256) (x : Nat → Nat) (hx : ∀ k, k < d → x k < 256)
    (h : ∀ q, q < d → dot d (outOf F j r by_ F q) x = if q = r then V q else V q ^^^ times (times (F q j) by_) (V r)) : ∀ q, q < d → dot d (F q) x = V q := by
  have hr' : dot d (F r) x = V r := by
    have := h r hr
    rw [if_pos rfl] at this
    rw [← this]; exact dot_congr (fun k _ => by simp [outOf]) fun _ _ => rfl
  intro q hq
  by_cases e : q = r
  · subst e; exact hr'
  · have := h q hq
    rw [if_neg e] at this
    have hm : times (F q j) by_ < 256 := times_lt _ _ (hF q hq j hj)
    have e2 : dot d (outOf F j r by_ F q) x = dot d (F q) x ^^^ times (times (F q j) by_) (dot d (F r) x) := by
      rw [← dot_less d _ _ _ x hm (hF q hq) (hF r hr) hx]
      exact dot_congr (fun k _ => by simp [outOf, e]) fun _ _ => rfl
    rw [e2, hr'] at this
    have := congrArg (· ^^^ times (times (F q j) by_) (V r)) this
    simpa [Nat.xor_assoc, Nat.xor_self] using this

theorem Gauss.next {d j r : Nat} {F : Nat → Nat → Nat} {W W' : Nat → Nat} {U U' : Nat → Bool} (h : Gauss d j F W U) (hj : j < d) (hr : r < d) (hu : U r = false) (hf : F r j ≠ 0)
    (hW : ∀ i, i < j → W' i = W i) (hWj : W' j = r) (hU : ∀ q, q < d → U' q = (U q || q == r)) : Gauss d (j + 1) (outOf F j r (inv (F r j)) F) W' U' := by
  have hnr : ∀ i, i < j → r ≠ W i := fun i hi e => by
    have := (h.used r hr).2 ⟨i, hi, e.symm⟩
    rw [hu] at this; cases this
  have hz : ∀ i, i < j → F r i = 0 := fun i hi => h.zero i hi r hr (hnr i hi)
  have bj := h.byte r hr j hj
  have old : ∀ q, q < d → ∀ i, i < j → outOf F j r (inv (F r j)) F q i = F q i := fun q hq i hi => by
    unfold outOf
    split
    · rfl
    · rw [hz i hi, times_zero _ (times_lt _ _ (h.byte q hq j hj)), Nat.xor_zero]
  refine ⟨outOf_byte (fun q hq => h.byte q hq j hj) h.byte, fun i hi => ?_, fun i hi k hk e => ?_, fun i hi => ?_, fun i hi q hq hn => ?_, fun q hq => ?_, fun x hx hd => ?_⟩
  · by_cases e : i = j
    · subst e; rw [hWj]; exact hr
    · rw [hW i (by omega)]; exact h.wlt i (by omega)
  · by_cases e1 : i = j
    · by_cases e2 : k = j
      · omega
      · subst e1; rw [hWj, hW k (by omega)] at e; exact absurd e (hnr k (by omega))
    · by_cases e2 : k = j
      · subst e2; rw [hWj, hW i (by omega)] at e; exact absurd e.symm (hnr i (by omega))
      · rw [hW i (by omega), hW k (by omega)] at e; exact h.inj i (by omega) k (by omega) e
  · by_cases e : i = j
    · subst e; rw [hWj]; simpa [outOf] using hf
    · rw [hW i (by omega), old _ (h.wlt i (by omega)) i (by omega)]; exact h.one i (by omega)
  · by_cases e : i = j
    · subst e
      rw [hWj] at hn
      have bq := h.byte q hq i hj
      unfold outOf
      rw [if_neg hn, times_assoc _ _ _ bq (inv_lt _ bj) bj, inv_mul _ bj hf, times_one _ bq, Nat.xor_self]
    · rw [hW i (by omega)] at hn
      rw [old q hq i (by omega)]; exact h.zero i (by omega) q hq hn
  · rw [hU q hq]
    constructor
    · intro hh
      rcases Bool.or_eq_true _ _ ▸ hh with hh | hh
      · obtain ⟨i, hi, e⟩ := (h.used q hq).1 hh
        exact ⟨i, by omega, by rw [hW i hi]; exact e⟩
      · exact ⟨j, by omega, by rw [hWj]; exact (beq_iff_eq.1 hh).symm⟩
    · rintro ⟨i, hi, e⟩
      by_cases e1 : i = j
      · subst e1; rw [hWj] at e; subst e; simp
      · rw [hW i (by omega)] at e
        rw [(h.used q hq).2 ⟨i, by omega, e⟩]; rfl
  · refine h.ker x hx (outOf_back (by_ := inv (F r j)) (V := fun _ => 0) hj hr h.byte x (fun k _ => hx k) fun q hq => ?_)
    rw [hd q hq]
    split
    · rfl
    · rw [times_zero _ (times_lt _ _ (h.byte q hq j hj))]; rfl

/-- As many different ones as there are places fill all places. -/
theorem onto (d : Nat) : ∀ f : Nat → Nat, (∀ i, i < d → f i < d) → (∀ i, i < d → ∀ k, k < d → f i = f k → i = k) → ∀ q, q < d → ∃ i, i < d ∧ f i = q := by
  induction d with
  | zero => intro f _ _ q hq; omega
  | succ d ih =>
    intro f hf hi q hq
    have hfd := hf d (by omega)
    have key := ih (fun k => if f k = d then f d else f k) (fun i hid => by
      have := hf i (by omega)
      by_cases e : f i = d
      · rw [if_pos e]
        have : f d ≠ d := fun e2 => by have := hi i (by omega) d (by omega) (e.trans e2.symm); omega
        omega
      · rw [if_neg e]; omega) (fun i hid k hkd e => by
      have hne : ∀ m, m < d → f m ≠ f d := fun m hm e2 => by have := hi m (by omega) d (by omega) e2; omega
      by_cases e1 : f i = d <;> by_cases e2 : f k = d
      · exact hi i (by omega) k (by omega) (e1.trans e2.symm)
      · rw [if_pos e1, if_neg e2] at e; exact absurd e.symm (hne k hkd)
      · rw [if_neg e1, if_pos e2] at e; exact absurd e (hne i hid)
      · rw [if_neg e1, if_neg e2] at e; exact hi i (by omega) k (by omega) e)
    by_cases e : f d = q
    · exact ⟨d, by omega, e⟩
    · by_cases hqd : q < d
      · obtain ⟨i, hid, hiq⟩ := key q hqd
        by_cases e1 : f i = d
        · rw [if_pos e1] at hiq; exact absurd hiq e
        · rw [if_neg e1] at hiq; exact ⟨i, by omega, hiq⟩
      · obtain ⟨i, hid, hiq⟩ := key (f d) (by omega)
        by_cases e1 : f i = d
        · exact ⟨i, by omega, by omega⟩
        · rw [if_neg e1] at hiq
          have := hi i (by omega) d (by omega) hiq; omega

/-- All unknowns are done: each is its equation's value by its factor. -/
theorem Gauss.done {d : Nat} {F : Nat → Nat → Nat} {W : Nat → Nat} {U : Nat → Bool} (h : Gauss d d F W U) (V : Nat → Nat) (hV : ∀ r, r < d → V r < 256) (q : Nat) (hq : q < d) :
    dot d (F q) (fun k => times (V (W k)) (inv (F (W k) k))) = V q := by
  obtain ⟨i, hi, rfl⟩ := onto d W h.wlt h.inj q hq
  have e : dot d (F (W i)) (fun k => times (V (W k)) (inv (F (W k) k))) = times (F (W i) i) (times (V (W i)) (inv (F (W i) i))) := xs_one _ d i hi fun k hk hki => by
    show times (F (W i) k) _ = 0
    rw [h.zero k hk _ hq fun e => hki (h.inj k hk i hi e.symm), zero_times _ (times_lt _ _ (hV _ (h.wlt k hk)))]
  have b1 := h.byte _ hq i hi
  have b2 := hV _ hq
  have b3 := inv_lt _ b1
  rw [e, times_comm _ (inv (F (W i) i)) b2 b3, ← times_assoc _ _ _ b1 b3 b2, inv_right _ b1 (h.one i hi), one_times _ b2]

/-- Where nothing but nothing is made nothing, there is one solution alone. -/
theorem sole {d : Nat} {F : Nat → Nat → Nat} (hF : ∀ r, r < d → ∀ k, k < d → F r k < 256) (ker : ∀ x : Nat → Nat, (∀ k, x k < 256) → (∀ r, r < d → dot d (F r) x = 0) → ∀ k, k < d → x k = 0)
    (x y : Nat → Nat) (hx : ∀ k, x k < 256) (hy : ∀ k, y k < 256) (e : ∀ r, r < d → dot d (F r) x = dot d (F r) y) : ∀ k, k < d → x k = y k := by
  intro k hk
  have := ker (fun k => x k ^^^ y k) (fun k => xor_lt (hx k) (hy k)) (fun r hr => by rw [dot_xor d _ _ _ (hF r hr), e r hr, Nat.xor_self]) k hk
  exact xor_eq_zero this
end Go.Proofs.YtmlnejlhgbonpaaDoor.Gf
