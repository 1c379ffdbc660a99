import Derived.Test.YtokmllopbfmadabDoorGMem
import Derived.Test.YtokmllopbfmadabDoorGGf
import Derived.Test.YtokmllopbfmadabDoorChecked
import Derived.Conc.LoneSelect
/- Sums over unknowns, equations, and what taking one unknown out of all others but one keeps. Nothing of the program. -/
namespace Go.Proofs.YtokmllopbfmadabDoor.Gf

/-- The sum of g 0 .. g (n - 1). -/
def xs (g : Nat → Nat) : Nat → Nat
  | 0 => 0
  | n + 1 => xs g n ^^^ g n
theorem xs_lt (g : Nat → Nat) (n : Nat) (h : ∀ k, k < n → g k < 256) : xs g n < 256 := by
  induction n with
  | zero => simp [xs]
  | succ n ih => exact xor_lt (ih fun k hk => h k (by omega)) (h n (by omega))
theorem xs_congr {g h : Nat → Nat} {n : Nat} (e : ∀ k, k < n → g k = h k) : xs g n = xs h n := by
  induction n with
  | zero => rfl
  | succ n ih => rw [xs, xs, ih fun k hk => e k (by omega), e n (by omega)]
theorem xs_xor (g h : Nat → Nat) (n : Nat) : xs (fun k => g k ^^^ h k) n = xs g n ^^^ xs h n := by
  induction n with
  | zero => simp [xs]
  | succ n ih => rw [xs, xs, xs, ih, xor4]
theorem xs_zero (g : Nat → Nat) (n : Nat) (h : ∀ k, k < n → g k = 0) : xs g n = 0 := by
  induction n with
  | zero => rfl
  | succ n ih => rw [xs, ih fun k hk => h k (by omega), h n (by omega)]; rfl
theorem xs_one (g : Nat → Nat) (n j : Nat) (hj : j < n) (h : ∀ k, k < n → k ≠ j → g k = 0) : xs g n = g j := by
  induction n with
  | zero => omega
  | succ n ih =>
    rw [xs]
    by_cases e : j = n
    · subst e; rw [xs_zero g j fun k hk => h k (by omega) (by omega), Nat.zero_xor]
    · rw [ih (by omega) fun k hk hn => h k (by omega) hn, h n (by omega) (by omega), Nat.xor_zero]
theorem xs_two (g : Nat → Nat) (n i j : Nat) (hi : i < n) (hj : j < n) (hij : i ≠ j) (h : ∀ k, k < n → k ≠ i → k ≠ j → g k = 0) : xs g n = g i ^^^ g j := by
  have e : xs g n = xs (fun k => (if k = i then g k else 0) ^^^ (if k = i then 0 else g k)) n := xs_congr fun k _ => by
    by_cases e : k = i <;> simp [e]
  rw [e, xs_xor, xs_one (fun k => if k = i then g k else 0) n i hi fun k _ hk => by simp [hk], xs_one (fun k => if k = i then 0 else g k) n j hj fun k hk hkj => by
    by_cases e : k = i
    · simp [e]
    · simp [e, h k hk e hkj]]
  simp [Ne.symm hij]
theorem xs_times (m : Nat) (g : Nat → Nat) (n : Nat) (hm : m < 256) : times m (xs g n) = xs (fun k => times m (g k)) n := by
  induction n with
  | zero => rw [xs, xs, times_zero m hm]
  | succ n ih => rw [xs, xs, times_xor_r m _ _ hm, ih]

/-- What an equation's left side comes to. -/
def dot (d : Nat) (f x : Nat → Nat) : Nat := xs (fun k => times (f k) (x k)) d
theorem dot_lt (d : Nat) (f x : Nat → Nat) (hf : ∀ k, k < d → f k < 256) : dot d f x < 256 := xs_lt _ _ fun k hk => times_lt _ _ (hf k hk)
theorem dot_congr {d : Nat} {f g x y : Nat → Nat} (e : ∀ k, k < d → f k = g k) (e' : ∀ k, k < d → x k = y k) : dot d f x = dot d g y := xs_congr fun k hk => by rw [e k hk, e' k hk]
theorem dot_less (d m : Nat) (f h x : Nat → Nat) (hm : m < 256) (hf : ∀ k, k < d → f k < 256) (hh : ∀ k, k < d → h k < 256) (hx : ∀ k, k < d → x k < 256) :
    dot d (fun k => f k ^^^ times m (h k)) x = dot d f x ^^^ times m (dot d h x) := by
  unfold dot
  rw [xs_times m _ _ hm, ← xs_xor]
  refine xs_congr fun k hk => ?_
  rw [times_xor_l _ _ _ (hf k hk) (times_lt _ _ hm), times_assoc m _ _ hm (hh k hk) (hx k hk)]
theorem dot_xor (d : Nat) (f x y : Nat → Nat) (hf : ∀ k, k < d → f k < 256) : dot d f (fun k => x k ^^^ y k) = dot d f x ^^^ dot d f y := by
  unfold dot
  rw [← xs_xor]
  exact xs_congr fun k hk => times_xor_r _ _ _ (hf k hk)

/-- Row q less so much of row r that the unknown j is gone; row r stays. -/
def outOf (F : Nat → Nat → Nat) (j r by_ : Nat) (G : Nat → Nat → Nat) : Nat → Nat → Nat :=
  fun q k => if q = r then G q k else G q k ^^^ times (times (F q j) by_) (G r k)

/-- The unknowns below j are done: each has an equation of its own, and stands in no other. -/
structure Gauss (d j : Nat) (F : Nat → Nat → Nat) (W : Nat → Nat) (U : Nat → Bool) : Prop where
  byte : ∀ r, r < d → ∀ k, k < d → F r k < 256
  wlt : ∀ i, i < j → W i < d
  inj : ∀ i, i < j → ∀ k, k < j → W i = W k → i = k
  one : ∀ i, i < j → F (W i) i ≠ 0
  zero : ∀ i, i < j → ∀ r, r < d → r ≠ W i → F r i = 0
  used : ∀ r, r < d → (U r = true ↔ ∃ i, i < j ∧ W i = r)
  ker : ∀ x : Nat → Nat, (∀ k, x k < 256) → (∀ r, r < d → dot d (F r) x = 0) → ∀ k, k < d → x k = 0

theorem Gauss.pivot {d j : Nat} {F : Nat → Nat → Nat} {W : Nat → Nat} {U : Nat → Bool} (h : Gauss d j F W U) (hj : j < d) : ∃ r, r < d ∧ U r = false ∧ F r j ≠ 0 := by
  apply Classical.byContradiction
  intro hno
  have hno : ∀ r, r < d → U r = false → F r j = 0 := by
    intro r hr hu
    apply Classical.byContradiction
    intro hf
    exact hno ⟨r, hr, hu, hf⟩
  let z : Nat → Nat := fun k => if k = j then 1 else if k < j then times (F (W k) j) (inv (F (W k) k)) else 0
  have zj : z j = 1 := by simp [z]
  have zk : ∀ k, k < j → z k = times (F (W k) j) (inv (F (W k) k)) := fun k hk => by simp [z, hk, show k ≠ j by omega]
  have zo : ∀ k, k ≠ j → ¬ k < j → z k = 0 := fun k h1 h2 => by simp [z, h1, h2]
  have hz := h.ker z (fun k => by
    by_cases e : k = j
    · rw [e, zj]; decide
    · by_cases e2 : k < j
      · rw [zk k e2]; exact times_lt _ _ (h.byte _ (h.wlt k e2) _ hj)
      · rw [zo k e e2]; decide) (fun r hr => ?_) j hj
  · rw [zj] at hz; cases hz
  · cases hu : U r
    · refine xs_zero _ _ fun k hk => ?_
      show times (F r k) (z k) = 0
      by_cases e : k = j
      · subst e; rw [hno r hr hu, zj]; rfl
      · by_cases e2 : k < j
        · have : F r k = 0 := h.zero k e2 r hr fun e => by
            have := (h.used r hr).2 ⟨k, e2, e.symm⟩
            rw [hu] at this; cases this
          rw [this, zk k e2, zero_times _ (times_lt _ _ (h.byte _ (h.wlt k e2) _ hj))]
        · rw [zo k e e2]; exact times_zero _ (h.byte r hr k hk)
    · obtain ⟨i, hi, rfl⟩ := (h.used r hr).1 hu
      have e : dot d (F (W i)) z = times (F (W i) i) (z i) ^^^ times (F (W i) j) (z j) := xs_two _ d i j (by omega) hj (by omega) fun k hk h1 h2 => by
        show times (F (W i) k) (z k) = 0
        by_cases e2 : k < j
        · rw [h.zero k e2 _ hr fun e => h1 (h.inj k e2 i hi e.symm), zk k e2, zero_times _ (times_lt _ _ (h.byte _ (h.wlt k e2) _ hj))]
        · rw [zo k h2 e2]; exact times_zero _ (h.byte _ hr k hk)
      have b1 := h.byte _ hr i (by omega)
      have b2 := h.byte _ hr j hj
      have b3 := inv_lt _ b1
      rw [e, zj, zk i hi, times_one _ b2, times_comm _ (inv (F (W i) i)) b2 b3, ← times_assoc _ _ _ b1 b3 b2, inv_right _ b1 (h.one i hi), one_times _ b2, Nat.xor_self]

theorem outOf_byte {d : Nat} {F G : Nat → Nat → Nat} {j r by_ L : Nat} (hF : ∀ q, q < d → F q j < 256) (hG : ∀ q, q < d → ∀ k, k < L → G q k < 256) : ∀ q, q < d → ∀ k, k < L → outOf F j r by_ G q k < 256 := by
  intro q hq k hk
  unfold outOf
  split
  · exact hG q hq k hk
  · exact xor_lt (hG q hq k hk) (times_lt _ _ (times_lt _ _ (hF q hq)))

/-- What solves the equations behind the step solves those ahead of it. -/
theorem outOf_back {d : Nat} {F : Nat → Nat → Nat} {V : Nat → Nat} {j r by_ : Nat} (hj : j < d) (hr : r < d) (hF : ∀ q, q < d → ∀ k, k < d → F q k < 256) (x : Nat → Nat) (hx : ∀ k, k < d → x k < 256)
    (h : ∀ q, q < d → dot d (outOf F j r by_ F q) x = if q = r then V q else V q ^^^ times (times (F q j) by_) (V r)) : ∀ q, q < d → dot d (F q) x = V q := by
  have hr' : dot d (F r) x = V r := by
    have := h r hr
    rw [if_pos rfl] at this
    rw [← this]; exact dot_congr (fun k _ => by simp [outOf]) fun _ _ => rfl
  intro q hq
  by_cases e : q = r
  · subst e; exact hr'
  · have := h q hq
    rw [if_neg e] at this
    have hm : times (F q j) by_ < 256 := times_lt _ _ (hF q hq j hj)
    have e2 : dot d (outOf F j r by_ F q) x = dot d (F q) x ^^^ times (times (F q j) by_) (dot d (F r) x) := by
      rw [← dot_less d _ _ _ x hm (hF q hq) (hF r hr) hx]
      exact dot_congr (fun k _ => by simp [outOf, e]) fun _ _ => rfl
    rw [e2, hr'] at this
    have := congrArg (· ^^^ times (times (F q j) by_) (V r)) this
    simpa [Nat.xor_assoc, Nat.xor_self] using this

theorem Gauss.next {d j r : Nat} {F : Nat → Nat → Nat} {W W' : Nat → Nat} {U U' : Nat → Bool} (h : Gauss d j F W U) (hj : j < d) (hr : r < d) (hu : U r = false) (hf : F r j ≠ 0)
    (hW : ∀ i, i < j → W' i = W i) (hWj : W' j = r) (hU : ∀ q, q < d → U' q = (U q || q == r)) : Gauss d (j + 1) (outOf F j r (inv (F r j)) F) W' U' := by
  have hnr : ∀ i, i < j → r ≠ W i := fun i hi e => by
    have := (h.used r hr).2 ⟨i, hi, e.symm⟩
    rw [hu] at this; cases this
  have hz : ∀ i, i < j → F r i = 0 := fun i hi => h.zero i hi r hr (hnr i hi)
  have bj := h.byte r hr j hj
  have old : ∀ q, q < d → ∀ i, i < j → outOf F j r (inv (F r j)) F q i = F q i := fun q hq i hi => by
    unfold outOf
    split
    · rfl
    · rw [hz i hi, times_zero _ (times_lt _ _ (h.byte q hq j hj)), Nat.xor_zero]
  refine ⟨outOf_byte (fun q hq => h.byte q hq j hj) h.byte, fun i hi => ?_, fun i hi k hk e => ?_, fun i hi => ?_, fun i hi q hq hn => ?_, fun q hq => ?_, fun x hx hd => ?_⟩
  · by_cases e : i = j
    · subst e; rw [hWj]; exact hr
    · rw [hW i (by omega)]; exact h.wlt i (by omega)
  · by_cases e1 : i = j
    · by_cases e2 : k = j
      · omega
      · subst e1; rw [hWj, hW k (by omega)] at e; exact absurd e (hnr k (by omega))
    · by_cases e2 : k = j
      · subst e2; rw [hWj, hW i (by omega)] at e; exact absurd e.symm (hnr i (by omega))
      · rw [hW i (by omega), hW k (by omega)] at e; exact h.inj i (by omega) k (by omega) e
  · by_cases e : i = j
    · subst e; rw [hWj]; simpa [outOf] using hf
    · rw [hW i (by omega), old _ (h.wlt i (by omega)) i (by omega)]; exact h.one i (by omega)
  · by_cases e : i = j
    · subst e
      rw [hWj] at hn
      have bq := h.byte q hq i hj
      unfold outOf
      rw [if_neg hn, times_assoc _ _ _ bq (inv_lt _ bj) bj, inv_mul _ bj hf, times_one _ bq, Nat.xor_self]
    · rw [hW i (by omega)] at hn
      rw [old q hq i (by omega)]; exact h.zero i (by omega) q hq hn
  · rw [hU q hq]
    constructor
    · intro hh
      rcases Bool.or_eq_true _ _ ▸ hh with hh | hh
      · obtain ⟨i, hi, e⟩ := (h.used q hq).1 hh
        exact ⟨i, by omega, by rw [hW i hi]; exact e⟩
      · exact ⟨j, by omega, by rw [hWj]; exact (beq_iff_eq.1 hh).symm⟩
    · rintro ⟨i, hi, e⟩
      by_cases e1 : i = j
      · subst e1; rw [hWj] at e; subst e; simp
      · rw [hW i (by omega)] at e
        rw [(h.used q hq).2 ⟨i, by omega, e⟩]; rfl
  · refine h.ker x hx (outOf_back (by_ := inv (F r j)) (V := fun _ => 0) hj hr h.byte x (fun k _ => hx k) fun q hq => ?_)
    rw [hd q hq]
    split
    · rfl
    · rw [times_zero _ (times_lt _ _ (h.byte q hq j hj))]; rfl

/-- As many different ones as there are places fill all places. -/
theorem onto (d : Nat) : ∀ f : Nat → Nat, (∀ i, i < d → f i < d) → (∀ i, i < d → ∀ k, k < d → f i = f k → i = k) → ∀ q, q < d → ∃ i, i < d ∧ f i = q := by
  induction d with
  | zero => intro f _ _ q hq; omega
  | succ d ih =>
    intro f hf hi q hq
    have hfd := hf d (by omega)
    have key := ih (fun k => if f k = d then f d else f k) (fun i hid => by
      have := hf i (by omega)
      by_cases e : f i = d
      · rw [if_pos e]
        have : f d ≠ d := fun e2 => by have := hi i (by omega) d (by omega) (e.trans e2.symm); omega
        omega
      · rw [if_neg e]; omega) (fun i hid k hkd e => by
      have hne : ∀ m, m < d → f m ≠ f d := fun m hm e2 => by have := hi m (by omega) d (by omega) e2; omega
      by_cases e1 : f i = d <;> by_cases e2 : f k = d
      · exact hi i (by omega) k (by omega) (e1.trans e2.symm)
      · rw [if_pos e1, if_neg e2] at e; exact absurd e.symm (hne k hkd)
      · rw [if_neg e1, if_pos e2] at e; exact absurd e (hne i hid)
      · rw [if_neg e1, if_neg e2] at e; exact hi i (by omega) k (by omega) e)
    by_cases e : f d = q
    · exact ⟨d, by omega, e⟩
    · by_cases hqd : q < d
      · obtain ⟨i, hid, hiq⟩ := key q hqd
        by_cases e1 : f i = d
        · rw [if_pos e1] at hiq; exact absurd hiq e
        · rw [if_neg e1] at hiq; exact ⟨i, by omega, hiq⟩
      · obtain ⟨i, hid, hiq⟩ := key (f d) (by omega)
        by_cases e1 : f i = d
        · exact ⟨i, by omega, by omega⟩
        · rw [if_neg e1] at hiq
          have := hi i (by omega) d (by omega) hiq; omega

/-- All unknowns are done: each is its equation's value by its factor. -/
theorem Gauss.done {d : Nat} {F : Nat → Nat → Nat} {W : Nat → Nat} {U : Nat → Bool} (h : Gauss d d F W U) (V : Nat → Nat) (hV : ∀ r, r < d → V r < 256) (q : Nat) (hq : q < d) :
    dot d (F q) (fun k => times (V (W k)) (inv (F (W k) k))) = V q := by
  obtain ⟨i, hi, rfl⟩ := onto d W h.wlt h.inj q hq
  have e : dot d (F (W i)) (fun k => times (V (W k)) (inv (F (W k) k))) = times (F (W i) i) (times (V (W i)) (inv (F (W i) i))) := xs_one _ d i hi fun k hk hki => by
    show times (F (W i) k) _ = 0
    rw [h.zero k hk _ hq fun e => hki (h.inj k hk i hi e.symm), zero_times _ (times_lt _ _ (hV _ (h.wlt k hk)))]
  have b1 := h.byte _ hq i hi
  have b2 := hV _ hq
  have b3 := inv_lt _ b1
  rw [e, times_comm _ (inv (F (W i) i)) b2 b3, ← times_assoc _ _ _ b1 b3 b2, inv_right _ b1 (h.one i hi), one_times _ b2]

/-- Where nothing but nothing is made nothing, there is one solution alone. -/
theorem sole {d : Nat} {F : Nat → Nat → Nat} (hF : ∀ r, r < d → ∀ k, k < d → F r k < 256) (ker : ∀ x : Nat → Nat, (∀ k, x k < 256) → (∀ r, r < d → dot d (F r) x = 0) → ∀ k, k < d → x k = 0)
    (x y : Nat → Nat) (hx : ∀ k, x k < 256) (hy : ∀ k, y k < 256) (e : ∀ r, r < d → dot d (F r) x = dot d (F r) y) : ∀ k, k < d → x k = y k := by
  intro k hk
  have := ker (fun k => x k ^^^ y k) (fun k => xor_lt (hx k) (hy k)) (fun r hr => by rw [dot_xor d _ _ _ (hF r hr), e r hr, Nat.xor_self]) k hk
  exact xor_eq_zero this
end Go.Proofs.YtokmllopbfmadabDoor.Gf

/- Which pieces are taken, what they say of the data pieces, and that they tell them in one way alone. Nothing of the program. -/
namespace Go.Proofs.YtokmllopbfmadabDoor.Gf

/-- How much of the data piece k the piece p has. -/
def rowOf (d p k : Nat) : Nat := if p < d then (if p = k then 1 else 0) else inv (p ^^^ k)
theorem rowOf_lt (d p k : Nat) (hp : p < 256) (hk : k < 256) : rowOf d p k < 256 := by
  unfold rowOf
  split
  · split <;> decide
  · exact inv_lt _ (xor_lt hp hk)
theorem dot_unit (d p : Nat) (hp : p < d) (x : Nat → Nat) (hx : ∀ k, k < d → x k < 256) : dot d (rowOf d p) x = x p := by
  have e : dot d (rowOf d p) x = times (rowOf d p p) (x p) := xs_one _ d p hp fun k hk hkp => by
    show times (rowOf d p k) (x k) = 0
    rw [show rowOf d p k = 0 by simp [rowOf, hp, Ne.symm hkp], zero_times _ (hx k hk)]
  rw [e, show rowOf d p p = 1 by simp [rowOf, hp], one_times _ (hx p hp)]

theorem csum_append (x : Nat → Nat) (p : Nat) (J K : List Nat) : csum x p (J ++ K) = csum x p J ^^^ csum x p K := by
  induction J with
  | nil => simp [csum]
  | cons j J ih => rw [List.cons_append, csum, csum, ih, Nat.xor_assoc]
theorem csum_range (d p n : Nat) (hp : d ≤ p) (hp2 : p < 256) (hn : n ≤ 256) (x : Nat → Nat) (hx : ∀ k, k < n → x k < 256) : csum x p (List.range n) = xs (fun k => times (rowOf d p k) (x k)) n := by
  induction n with
  | zero => rfl
  | succ n ih =>
    rw [List.range_succ, csum_append, ih (by omega) fun k hk => hx k (by omega), xs]
    congr 1
    rw [csum, csum, Nat.xor_zero, show rowOf d p n = inv (p ^^^ n) by simp [rowOf, show ¬ p < d by omega], times_comm _ _ (hx n (by omega)) (inv_lt _ (xor_lt hp2 (by omega)))]
theorem csum_filter (x : Nat → Nat) (p : Nat) (g : Nat → Bool) (J : List Nat) (hp : p < 256) (hJ : ∀ j, j ∈ J → j < 256) (h : ∀ j, j ∈ J → g j = false → x j = 0) : csum x p (J.filter g) = csum x p J := by
  induction J with
  | nil => rfl
  | cons j J ih =>
    have ih := ih (fun i hi => hJ i (by simp [hi])) fun i hi => h i (by simp [hi])
    cases e : g j
    · rw [List.filter_cons_of_neg (by simp [e]), ih, csum, h j (by simp) e, zero_times _ (inv_lt _ (xor_lt hp (hJ j (by simp)))), Nat.zero_xor]
    · rw [List.filter_cons_of_pos (by simp [e]), csum, csum, ih]

/-- The d of least numbers that are left. -/
def chosen (N : Nat → Bool) (d s : Nat) : List Nat := ((List.range (d + s)).filter N).take d
theorem chosen_eq (N : Nat → Bool) (d s : Nat) : chosen N d s = (List.range d).filter N ++ ((List.range' d s).filter N).take (d - ((List.range d).filter N).length) := by
  unfold chosen
  have e : List.range (d + s) = List.range d ++ List.range' d s := by
    rw [List.range_eq_range', List.range_eq_range']
    have := List.range'_append_1 (s := 0) (m := d) (n := s)
    rw [Nat.zero_add] at this
    exact this.symm
  have hl : ((List.range d).filter N).length ≤ d := by have := List.length_filter_le N (List.range d); simpa using this
  rw [e, List.filter_append, List.take_append, List.take_of_length_le hl]
theorem chosen_lt (N : Nat → Bool) (d s p : Nat) (h : p ∈ chosen N d s) : p < d + s ∧ N p = true := by
  have := List.mem_of_mem_take h
  simp at this
  exact this
theorem chosen_nodup (N : Nat → Bool) (d s : Nat) : (chosen N d s).Nodup := ((List.take_sublist _ _).trans List.filter_sublist).nodup List.nodup_range
theorem chosen_length (N : Nat → Bool) (d s : Nat) (h : d ≤ ((List.range (d + s)).filter N).length) : (chosen N d s).length = d := by
  unfold chosen
  rw [List.length_take]; omega

theorem chosen_ker (N : Nat → Bool) (d s : Nat) (hds : d + s ≤ 256) (hl : d ≤ ((List.range (d + s)).filter N).length) (x : Nat → Nat) (hx : ∀ k, x k < 256) (h : ∀ p, p ∈ chosen N d s → dot d (rowOf d p) x = 0) : ∀ k, k < d → x k = 0 := by
  have hc := chosen_length N d s hl
  have hA : ∀ k, k < d → N k = true → x k = 0 := fun k hk hN => by
    rw [← dot_unit d k hk x fun k _ => hx k]
    refine h k ?_
    rw [chosen_eq]
    exact List.mem_append_left _ (List.mem_filter.2 ⟨List.mem_range.2 hk, hN⟩)
  have key := cauchy ((List.range d).filter fun k => !N k) (((List.range' d s).filter N).take (d - ((List.range d).filter N).length)) ?_ (List.filter_sublist.nodup List.nodup_range)
    (((List.take_sublist _ _).trans List.filter_sublist).nodup List.nodup_range') ?_ ?_ ?_ x (fun j _ => hx j) ?_
  · intro k hk
    cases hN : N k
    · exact key k (List.mem_filter.2 ⟨List.mem_range.2 hk, by simp [hN]⟩)
    · exact hA k hk hN
  · have e1 := List.length_eq_countP_add_countP N (l := List.range d)
    rw [List.countP_eq_length_filter, List.countP_eq_length_filter, List.length_range] at e1
    rw [chosen_eq, List.length_append] at hc
    have e2 : ((List.range d).filter fun k => !N k).length = ((List.range d).filter fun a => decide ¬ N a = true).length := by congr 2; funext k; cases N k <;> simp
    omega
  · intro j hj
    have := List.mem_range.1 (List.mem_filter.1 hj).1; omega
  · intro p hp
    have := (List.mem_filter.1 (List.mem_of_mem_take hp)).1
    simp at this; omega
  · intro j hj p hp
    have h1 := List.mem_range.1 (List.mem_filter.1 hj).1
    have := (List.mem_filter.1 (List.mem_of_mem_take hp)).1
    simp at this; omega
  · intro p hp
    have hp2 := (List.mem_filter.1 (List.mem_of_mem_take hp)).1
    simp at hp2
    rw [csum_filter x p _ _ (by omega) (fun j hj => by have := List.mem_range.1 hj; omega) (fun j hj hN => hA j (List.mem_range.1 hj) (by simpa using hN)), csum_range d p d (by omega) (by omega) (by omega) x fun k _ => hx k]
    refine h p ?_
    rw [chosen_eq]
    exact List.mem_append_right _ hp

/-- At most as many of different numbers are in a list as it has. -/
theorem filter_mem_le (L : List Int) : ∀ l : List Nat, l.Nodup → (l.filter fun (p : Nat) => decide ((p : Int) ∈ L)).length ≤ L.length := by
  induction L with
  | nil => intro l _; simp
  | cons a L ih =>
    intro l hl
    have h1 : ∀ l : List Nat, l.Nodup → (l.filter fun (p : Nat) => decide ((p : Int) ∈ a :: L)).length ≤ (l.filter fun (p : Nat) => decide ((p : Int) = a)).length + (l.filter fun (p : Nat) => decide ((p : Int) ∈ L)).length := by
      intro l _
      induction l with
      | nil => simp
      | cons p l ih2 =>
        have ih2 := ih2 (by simp_all)
        by_cases e1 : (p : Int) = a <;> by_cases e2 : (p : Int) ∈ L <;> simp [List.filter_cons, e1, e2] at ih2 ⊢ <;> try omega
        · simp [← e1, e2]; simp [← e1] at ih2; omega
        · simp [← e1, e2]; simp [← e1] at ih2; omega
    have h2 : ∀ l : List Nat, l.Nodup → (l.filter fun (p : Nat) => decide ((p : Int) = a)).length ≤ 1 := by
      intro l
      induction l with
      | nil => intro _; simp
      | cons p l ih2 =>
        intro hl
        have hl := List.nodup_cons.1 hl
        by_cases e : (p : Int) = a
        · rw [List.filter_cons_of_pos (by simp [e])]
          have : (l.filter fun (p : Nat) => decide ((p : Int) = a)) = [] := by
            rw [List.filter_eq_nil_iff]
            intro q hq
            simp only [decide_eq_true_eq]
            intro e2
            have : p = q := by omega
            exact hl.1 (this ▸ hq)
          rw [this]; simp
        · rw [List.filter_cons_of_neg (by simp [e])]; exact ih2 hl.2
    have := h1 l hl
    have := h2 l hl
    have := ih l hl
    simp only [List.length_cons]; omega
/-- Not lost? -/
def left_ (lost : List Int) (p : Nat) : Bool := !decide ((p : Int) ∈ lost)
theorem enough (d s : Nat) (lost : List Int) (h : lost.length ≤ s) : d ≤ ((List.range (d + s)).filter (left_ lost)).length := by
  have h1 := filter_mem_le lost (List.range (d + s)) List.nodup_range
  have e1 := List.length_eq_countP_add_countP (left_ lost) (l := List.range (d + s))
  rw [List.countP_eq_length_filter, List.countP_eq_length_filter, List.length_range] at e1
  have e2 : ((List.range (d + s)).filter fun a => decide ¬ left_ lost a = true).length = ((List.range (d + s)).filter fun (p : Nat) => decide ((p : Int) ∈ lost)).length := by
    congr 2; funext k; by_cases e : (k : Int) ∈ lost <;> simp [left_, e]
  omega

/-- The byte t of each data piece. -/
def colOf (ps : List (List Nat)) (t k : Nat) : Nat := (ps.getD k []).getD t 0
/-- Data pieces of which the taken pieces are pieces. -/
structure Fits (d L : Nat) (P : List Nat) (pc : Nat → List Nat) (ps : List (List Nat)) : Prop where
  len : ps.length = d
  size : ∀ j, (h : j < ps.length) → ps[j].length = L
  byte : ∀ j, (h : j < ps.length) → Bytes ps[j]
  fits : ∀ p, p ∈ P → ∀ t, t < L → dot d (rowOf d p) (colOf ps t) = (pc p).getD t 0
theorem colOf_lt {ps : List (List Nat)} (h : ∀ j, (h : j < ps.length) → Bytes ps[j]) (t k : Nat) : colOf ps t k < 256 := by
  unfold colOf
  by_cases hk : k < ps.length
  · rw [show ps.getD k [] = ps[k] by simp [hk]]; exact (h k hk).getD t
  · rw [show ps.getD k [] = [] by simp [List.getElem?_eq_none (Nat.le_of_not_lt hk)]]; simp
/-- ████ They are told in one way alone. ████ -/
theorem Fits.sole {d s L : Nat} {N : Nat → Bool} {pc : Nat → List Nat} {ps qs : List (List Nat)} (hds : d + s ≤ 256) (hl : d ≤ ((List.range (d + s)).filter N).length) (h : Fits d L (chosen N d s) pc ps) (k : Fits d L (chosen N d s) pc qs) : ps = qs := by
  have hcol : ∀ t, t < L → ∀ j, j < d → colOf ps t j = colOf qs t j := by
    intro t ht j hj
    have := chosen_ker N d s hds hl (fun j => colOf ps t j ^^^ colOf qs t j) (fun j => xor_lt (colOf_lt h.byte t j) (colOf_lt k.byte t j)) (fun p hp => by
      have hp2 := chosen_lt N d s p hp
      rw [dot_xor d _ _ _ fun j hj => rowOf_lt d p j (by omega) (by omega), h.fits p hp t ht, k.fits p hp t ht, Nat.xor_self]) j hj
    exact xor_eq_zero this
  have hl1 := h.len
  have hl2 := k.len
  apply List.ext_getElem
  · omega
  · intro j h1 h2
    have s1 := h.size j h1
    have s2 := k.size j h2
    apply List.ext_getElem
    · omega
    · intro t h3 h4
      have := hcol t (by omega) j (by omega)
      simpa [colOf, h1, h2, h3, h4] using this
theorem sumTo_dot (row : List Nat) (ps : List (List Nat)) (L t : Nat) (hl : ∀ j, (h : j < ps.length) → ps[j].length = L) (ht : t < L) : ∀ n, n ≤ ps.length → (sumTo row ps L n).getD t 0 = xs (fun k => times (row.getD k 0) (colOf ps t k)) n
  | 0, _ => by simp [sumTo, xs, ht]
  | n + 1, h => by
    have ih := sumTo_dot row ps L t hl ht n (by omega)
    have l0 := sumTo_length row ps L hl n (by omega)
    rw [xs, ← ih, sumTo, addTo]
    have hps : (ps.getD n []).length = L := by simp [show n < ps.length by omega, hl n (by omega)]
    have h1 : t < (sumTo row ps L n).length := by omega
    have h2 : t < (ps.getD n []).length := by omega
    have e1 : (sumTo row ps L n).getD t 0 = (sumTo row ps L n)[t] := by simp [h1]
    have e2 : colOf ps t n = (ps.getD n [])[t] := by unfold colOf; generalize ps.getD n [] = q at h2; simp [h2]
    rw [e1, e2, List.getD_eq_getElem?_getD, List.getElem?_eq_getElem (by simp only [List.length_zipWith]; omega), Option.getD_some, List.getElem_zipWith]
end Go.Proofs.YtokmllopbfmadabDoor.Gf

/- Rows that are given by a function; worlds that differ in one block. -/
namespace Go.Proofs.YtokmllopbfmadabDoor.Plans
open Go.RowKit Mem

/-- The row whose place i holds f i. -/
def rowF (m : Nat) (f : Nat → Nat) : List Nat := (List.range m).map f
@[simp] theorem rowF_length (m : Nat) (f : Nat → Nat) : (rowF m f).length = m := by simp [rowF]
theorem rowF_at {m k : Nat} (f : Nat → Nat) (h : k < (rowF m f).length) : (rowF m f)[k] = f k := by simp [rowF]
theorem rowF_congr {m : Nat} {f g : Nat → Nat} (h : ∀ i, i < m → f i = g i) : rowF m f = rowF m g := by
  unfold rowF; exact List.map_congr_left fun i hi => h i (List.mem_range.1 hi)
def upd (f : Nat → Nat) (k x : Nat) : Nat → Nat := fun i => if i = k then x else f i
theorem rowF_set (m k x : Nat) (f : Nat → Nat) : (rowF m f).set k x = rowF m (upd f k x) := by
  apply List.ext_getElem
  · simp
  · intro i h1 h2
    rw [List.getElem_set]
    by_cases e : k = i
    · subst e; simp [rowF, upd]
    · simp [rowF, upd, e, Ne.symm e]
theorem rowF_zero (m : Nat) : rowF m (fun _ => 0) = List.replicate m 0 := by
  apply List.ext_getElem <;> simp [rowF]

/-- w' is w but for block S, and new blocks. -/
structure But (S : Nat) (w w' : World) : Prop where
  os : w'.os = w.os
  tape : w'.tape = w.tape
  output : w'.output = w.output
  size : w.heap.size ≤ w'.heap.size
  rest : ∀ b, b ≠ S → b < w.heap.size → w'.heap[b]? = w.heap[b]?
section
variable {S : Nat} {w w' w'' : World}
theorem But.refl (S : Nat) (w : World) : But S w w := ⟨rfl, rfl, rfl, Nat.le_refl _, fun _ _ _ => rfl⟩
theorem But.setCell (h : But S w w') (k : Nat) (v : Value) : But S w (w'.setCell ⟨S, k, none⟩ v) :=
  ⟨h.os, h.tape, h.output, by rw [size_setCell]; exact h.size, fun b h1 h2 => (Below.heap_setCell w' _ v b h1).trans (h.rest b h1 h2)⟩
theorem But.drew (h : But S w w') : But S w w'.drew := ⟨h.os, h.tape, h.output, h.size, h.rest⟩
theorem But.to (h : But S w w') (hb : Below w'.heap.size w' w'') : But S w w'' :=
  ⟨hb.os.trans h.os, hb.tape.trans h.tape, hb.output.trans h.output, Nat.le_trans h.size hb.size, fun b h1 h2 => (hb.block b (Nat.lt_of_lt_of_le h2 h.size)).trans (h.rest b h1 h2)⟩
theorem But.alloc (h : But S w w') (o : Obj) : But S w (w'.alloc o) := h.to ((Below.refl _ _).alloc (Nat.le_refl _) o)
theorem But.trans (h : But S w w') (k : But S w' w'') : But S w w'' :=
  ⟨k.os.trans h.os, k.tape.trans h.tape, k.output.trans h.output, Nat.le_trans h.size k.size, fun b h1 h2 => (k.rest b h1 (Nat.lt_of_lt_of_le h2 h.size)).trans (h.rest b h1 h2)⟩
theorem But.row (h : But S w w') (cs : Array Value) : But S w (w'.setRow S cs) :=
  ⟨h.os, h.tape, h.output, by simpa [World.setRow] using h.size, fun b h1 h2 => (setRow_other w' S b cs h1).trans (h.rest b h1 h2)⟩
/-- A new row of the call's own may be written. -/
theorem But.row_new (h : But S w w') {g : Nat} (hg : w.heap.size ≤ g) (cs : Array Value) : But S w (w'.setRow g cs) :=
  ⟨h.os, h.tape, h.output, by simpa [World.setRow] using h.size, fun b h1 h2 => (setRow_other w' g b cs (by omega)).trans (h.rest b h1 h2)⟩
theorem But.cell_new (h : But S w w') {a : Addr} (hg : w.heap.size ≤ a.block) (v : Value) : But S w (w'.setCell a v) :=
  ⟨h.os, h.tape, h.output, by rw [size_setCell]; exact h.size, fun b h1 h2 => (Below.heap_setCell w' _ v b (by omega)).trans (h.rest b h1 h2)⟩
theorem But.below {B : Nat} {w0 : World} (h : But S w w') (hb : Below B w0 w) (hS : B ≤ S) (hB : B ≤ w.heap.size) : Below B w0 w' :=
  hb.trans ⟨h.os, h.tape, h.output, h.size, fun k hk => h.rest k (by omega) (by omega)⟩
theorem But.blk {b : Nat} {t : TypeId} {vs : List Value} (h : But S w w') (hb : Blk w b t vs) (hne : b ≠ S) : Blk w' b t vs := by
  unfold Blk; rw [h.rest b hne hb.lt]; exact hb
theorem But.cell (h : But S w w') {p : Addr} (hne : p.block ≠ S) (hlt : p.block < w.heap.size) : w'.cell? p = w.cell? p := World.cell?_of_block (h.rest _ hne hlt)
end
end Go.Proofs.YtokmllopbfmadabDoor.Plans

namespace Go.Proofs.YtokmllopbfmadabDoor.Plans
open Go.RowKit Mem

/-- What an append onto a row of the call's own keeps: all blocks of other types. -/
theorem grown_keeps {w w' : World} {base size n : Nat} {e : TypeId} {v : Value} {xs : List Value} (h : w.ownsRow base e size v n xs) (hg : w.grownBy w' v.ownBlock) {b : Nat} {t : TypeId} {vs : List Value} (hb : Blk w b t vs) (ht : t ≠ e) : Blk w' b t vs := by
  unfold Blk
  rw [hg.block b hb.lt (fun e1 => ?_)]
  · exact hb
  · rcases h.2 with ⟨rfl, _⟩ | ⟨g', cap, cur', rfl, _, hh, _⟩
    · simp [Value.ownBlock] at e1
    · simp [Value.ownBlock] at e1
      subst e1
      unfold Blk at hb
      rw [hb] at hh
      simp at hh
      exact ht hh.2
/-- append of one element, of any number of cells, onto a row of the call's own. -/
theorem wpList_append_row {P : Program} (w : World) {ops : Array Oper} {rest : List Oper} {o : Oper} {a : Act} {Q : Exit → Act → World → Prop}
    (hgd : o.guard = none) (s x : Operand) (t : TypeId) (hop : o.op = Op.call { callee := Callee.builtin Builtin.append, args := #[s, x], argTypes := #[t, t] })
    (base : Nat) (e : TypeId) (z : Value) (size bytes : Nat) (ht : P.underlying t = some (.slice e)) (hinfo : (P.info? e).map (fun i => (i.zero, i.size, i.bytes)) = some (some z, size, bytes)) (hz : z.cells.size = size) (hsz : 0 < size) (hby : bytes ≤ 1000)
    (v : Value) (n : Nat) (xs : List Value) (hs : a.eval s = v) (hown : w.ownsRow base e size v n xs) (ad : Addr) (c : Nat) (news : List Value) (hx : a.eval x = .slice (some ad) 1 c) (hl : news.length = size) (hu : ∀ j u, news[j]? = some u → w.cell? (ad.add j) = some u) (h1 : ∀ u ∈ news, u.oneCell' = true) (hn : n ≤ 1000000) (hbase : base ≤ w.heap.size)
    (hK : ∀ v' w', w'.ownsRow base e size v' (n + 1) (xs ++ news) → w.grownBy w' v.ownBlock → (∀ B a, Below B a w → B ≤ base → Below B a w') → wpList P ops Q rest (a.put o.dst v') w') :
    wpList P ops Q (o :: rest) a w := by
  obtain ⟨i0, hi, hz0, hz1, hz2⟩ := info_parts hinfo
  refine wpList_append_own _ hgd s x t hop base e i0 z size bytes ht hi hz0 hz1 hz2 hz hsz v n xs hs hown ad 1 c news hx (by omega) hu h1 (by unfold maxLen; omega) ?_ hbase ?_
  · have : (n + 1) * bytes ≤ 1000001 * 1000 := Nat.mul_le_mul (by omega) hby
    omega
  · intro v' w' ho hg _
    exact hK v' w' ho hg (fun B b hb hB => below_grown hb hown hg (Nat.le_trans hB hbase) hB)
theorem made_cells (w : World) (t : TypeId) (news : List Value) (j : Nat) (u : Value) (h : news[j]? = some u) : (w.alloc (.cells news.toArray t)).cell? ((⟨w.heap.size, 0, none⟩ : Addr).add j) = some u := by
  rw [Addr.add_lit, Nat.zero_add]
  exact (Blk.new w news.toArray t).cell_some (by simpa using h)
theorem owns_form {w : World} {base size : Nat} {e : TypeId} {v : Value} {n : Nat} {xs : List Value} (h : w.ownsRow base e size v n xs) : ∃ ao c, v = .slice ao n c := by
  rcases h.2 with ⟨rfl, rfl⟩ | ⟨g, cap, cur, rfl, _⟩
  · exact ⟨_, _, rfl⟩
  · exact ⟨_, _, rfl⟩
def intsV (l : List Nat) : List Value := l.map fun (n : Nat) => Value.int .i64 (n : Int)
theorem infoInt : (Tryd.prog.info? 3).map (fun i => (i.zero, i.size, i.bytes)) = some (some (.int .i64 0), 1, 8) := by kernel_rfl
theorem infoStep : (Tryd.prog.info? 141).map (fun i => (i.zero, i.size, i.bytes)) = some (some (.agg #[.int .i64 0, .int .i64 0, .bool false]), 3, 24) := by kernel_rfl
theorem infoCol8 : (Tryd.prog.info? 146).map (fun i => (i.zero, i.size, i.bytes)) = some (some (.agg #[.int .u8 0, .int .u8 0, .int .u8 0, .int .u8 0, .int .u8 0, .int .u8 0, .int .u8 0, .int .u8 0]), 8, 8) := by kernel_rfl
end Go.Proofs.YtokmllopbfmadabDoor.Plans

/- A select of one receive with a default, in one goroutine, as a step of the walk. Nothing of the program. -/
namespace Go.Proofs.YtokmllopbfmadabDoor.Pk
open Go.RowKit Go.Conc Mem

theorem stepG_comm_any {P : Program} {b : Frame} {a : Act} {k : List Item} {cs : List Frame} {w : World} {ops : Array Oper} {i : Nat} {rest : List Nat} {o : Oper} {cases : Array CommCase} {blocking : Bool} {shape : CommShape} {w' : World} (ho : ops[i]? = some o) (hw : Region.wanted o (yielded ops a.tmps) = true)
    (hr : (execOp a.eval o).run P w = .ok (.comm cases blocking shape) w') :
    ∃ es, stepG P true (G (b.at a (.inRegion ops (i :: rest) :: k)) cs) w = .comm (G (b.at a (.inRegion ops (i :: rest) :: k)) cs) cases blocking shape w' es := by
  by_cases hk : b.kind = .early
  · have hk' : (b.kind == CallKind.early) = true := by simp [hk]
    rw [stepG_oper ho hw]
    exact ⟨_, by simp [stepG.apply, hr, G, Frame.at, GStep.after, hk']; rfl⟩
  · exact ⟨_, stepG_comm ho hw hk hr⟩
/-- The region begins with a select of one receive, and a default: over a channel whose buffer is empty, closed or not. -/
theorem wp_region_select {P : Program} {id : Nat} {ops : Array Oper} {Q : Exit → Act → World → Prop} {a : Act} {w : World} {o : Oper} {rest : List Nat} {c cap s r : Nat} {closed tm : Bool} {z : Value}
    (hl : List.range ops.size = 0 :: rest) (ho : ops[0]? = some o) (hg : o.guard = none)
    (hr : (execOp a.eval o).run P w = .ok (.comm #[rcase c z] false .select) w) (hc : w.heap[c]? = some (.chan cap #[] closed s r tm))
    (hK : wpOps P ops Q rest (a.put o.dst (.tuple #[goInt (if closed then 0 else -1), .bool false, z])) w) : (Code.region id ops false).wp P Q a w := by
  intro b k cs
  obtain ⟨e, a', w', q, har⟩ := wp_ops rest _ w hK b k cs
  refine ⟨e, a', w', q, .of_steps (.one step_region) ?_⟩
  have hw : Region.wanted o (yielded ops a.tmps) = true := by simp [Region.wanted, hg]
  obtain ⟨es, hs⟩ := stepG_comm_any (b := b) (k := k) (cs := cs) (rest := rest) ho hw hr
  rw [hl, lone_eq_solo]
  have hfin : (b.at a (.inRegion ops (0 :: rest) :: k)).finish (.tuple #[goInt (if closed then 0 else -1), .bool false, z]) = b.at (a.put o.dst (.tuple #[goInt (if closed then 0 else -1), .bool false, z])) (.inRegion ops rest :: k) := by
    rw [Frame.finish_at, ho]; rfl
  refine .of_steps (.one ?_) har
  rw [← hfin]
  cases closed
  · exact step_lone_select_default hs hc
  · exact step_lone_select_recv_shut hs hc
theorem wp_region_select_lit {P : Program} {id : Nat} {o : Oper} {rest : List Oper} {Q : Exit → Act → World → Prop} {a : Act} {w : World} (c cap s r : Nat) (closed tm : Bool) (z : Value) (hg : o.guard = none)
    (hr : (execOp a.eval o).run P w = .ok (.comm #[rcase c z] false .select) w) (hc : w.heap[c]? = some (.chan cap #[] closed s r tm))
    (hK : wpList P (o :: rest).toArray Q rest (a.put o.dst (.tuple #[goInt (if closed then 0 else -1), .bool false, z])) w) : (Code.region id (o :: rest).toArray false).wp P Q a w := by
  refine wp_region_select (o := o) (rest := List.range' 1 rest.length) ?_ rfl hg hr hc ?_
  · rw [List.range_eq_range']; rfl
  · rw [wpOps_eq_wpList rest 1 (fun j => by simp [Nat.add_comm 1 j])]
    exact hK
theorem run_select1 {P : Program} {a : Act} {w : World} {o : Oper} {x : Operand} {t : TypeId} {z : Value} {c : Nat} (hop : o.op = Op.select #[{ chan := x, send := none, elem := t }] false) (hx : a.eval x = .chan (some c)) (hz : (zeroValue t).run P w = .ok z w) :
    (execOp a.eval o).run P w = .ok (.comm #[rcase c z] false .select) w := by
  generalize a.eval = ev at hx ⊢
  simp [execOp, hop, hx, hz, rcase, go_sem]
/-- The select of one receive, and a default, as the walk meets it. -/
theorem wp_select {P : Program} {id : Nat} {o : Oper} {rest : List Oper} {Q : Exit → Act → World → Prop} {a : Act} {w : World} {x : Operand} {t : TypeId} {c cap s r : Nat} {closed tm : Bool} {z : Value} (hop : o.op = Op.select #[{ chan := x, send := none, elem := t }] false) (hg : o.guard = none)
    (hx : a.eval x = .chan (some c)) (hz : (zeroValue t).run P w = .ok z w) (hc : w.heap[c]? = some (.chan cap #[] closed s r tm))
    (hK : wpList P (o :: rest).toArray Q rest (a.put o.dst (.tuple #[goInt (if closed then 0 else -1), .bool false, z])) w) : (Code.region id (o :: rest).toArray false).wp P Q a w :=
  wp_region_select_lit c cap s r closed tm z hg (run_select1 hop hx hz) hc hK
end Go.Proofs.YtokmllopbfmadabDoor.Pk
