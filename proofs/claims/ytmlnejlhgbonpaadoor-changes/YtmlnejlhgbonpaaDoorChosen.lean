/- Which pieces are taken, what they say of the data pieces, and that they tell them in one way alone. Nothing of the program. -/
import Derived.Test.YtmlnejlhgbonpaaDoorSolve
import Derived.Test.YtmlnejlhgbonpaaDoorSum
namespace Go.Proofs.YtmlnejlhgbonpaaDoor.Gf

/-- How much of the data piece k the piece p has. -/
def rowOf (d p k : Nat) : Nat := if p < d then (if p = k then 1 else 0) else inv (p ^^^ k)
theorem rowOf_lt (d p k : Nat) (hp : p < 256) (hk : k < 256) : rowOf d p k < 256 := by
  unfold rowOf
  split
  · split <;> decide
  · exact inv_lt _ (xor_lt hp hk)
theorem dot_unit (d p : Nat) (hp : p < d) (x : Nat → Nat) (hx : ∀ k, k < d → x k < 256) : dot d (rowOf d p) x = x p := by
  have e : dot d (rowOf d p) x = times (rowOf d p p) (x p) := xs_one _ d p hp fun k hk hkp => by
    show times (rowOf d p k) (x k) = 0
    rw [show rowOf d p k = 0 by simp [rowOf, hp, Ne.symm hkp], zero_times _ (hx k hk)]
  rw [e, show rowOf d p p = 1 by simp [rowOf, hp], one_times _ (hx p hp)]

theorem csum_append (x : Nat → Nat) (p : Nat) (J K : List Nat) : csum x p (J ++ K) = csum x p J ^^^ csum x p K := by
  induction J with
  | nil => simp [csum]
  | cons j J ih => rw [List.cons_append, csum, csum, ih, Nat.xor_assoc]
theorem csum_range (d p n : Nat) (hp : d ≤ p) (hp2 : p < 256) (hn : n ≤ 256) (x : Nat → Nat) (hx : ∀ k, k < n → x k < 256) : csum x p (List.range n) = xs (fun k => times (rowOf d p k) (x k)) n := by
  induction n with
  | zero => rfl
  | succ n ih =>
    rw [List.range_succ, csum_append, ih (by omega) fun k hk => hx k (by omega), xs]
    congr 1
    rw [csum, csum, Nat.xor_zero, show rowOf d p n = inv (p ^^^ n) by simp [rowOf, show ¬ p < d by omega], times_comm _ _ (hx n (by omega)) (inv_lt _ (xor_lt hp2 (by omega)))]
theorem csum_filter (x : Nat → Nat) (p : Nat) (g : Nat → Bool) (J : List Nat) (hp : p < 256) (hJ : ∀ j, j ∈ J → j < 256) (h : ∀ j, j ∈ J → g j = false → x j = 0) : csum x p (J.filter g) = csum x p J := by
  induction J with
  | nil => rfl
  | cons j J ih =>
    have ih := ih (fun i hi => hJ i (by simp [hi])) fun i hi => h i (by simp [hi])
    cases e : g j
    · rw [List.filter_cons_of_neg (by simp [e]), ih, csum, h j (by simp) e, zero_times _ (inv_lt _ (xor_lt hp (hJ j (by simp)))), Nat.zero_xor]
    · rw [List.filter_cons_of_pos (by simp [e]), csum, csum, ih]

/-- The d of least numbers that are left. -/
def chosen (N : Nat → Bool) (d s : Nat) : List Nat := ((List.range (d + s)).filter N).take d
theorem chosen_eq (N : Nat → Bool) (d s : Nat) : chosen N d s = (List.range d).filter N ++ ((List.range' d s).filter N).take (d - ((List.range d).filter N).length) := by
  unfold chosen
  have e : List.range (d + s) = List.range d ++ List.range' d s := by
    rw [List.range_eq_range', List.range_eq_range']
    have := List.range'_append_1 (s := 0) (m := d) (n := s)
    rw [Nat.zero_add] at this
    exact this.symm
  have hl : ((List.range d).filter N).length ≤ d := by have := List.length_filter_le N (List.range d); simpa using this
  rw [e, List.filter_append, List.take_append, List.take_of_length_le hl]
theorem chosen_lt (N : Nat → Bool) (d s p : Nat) (h : p ∈ chosen N d s) : p < d + s ∧ N p = true := by
  have := List.mem_of_mem_take h
  simp at this
  exact this
theorem chosen_nodup (N : Nat → Bool) (d s : Nat) : (chosen N d s).Nodup := ((List.take_sublist _ _).trans List.filter_sublist).nodup List.nodup_range
theorem chosen_length (N : Nat → Bool) (d s : Nat) (h : d ≤ ((List.range (d + s)).filter N).length) : (chosen N d s).length = d := by
  unfold chosen
  rw [List.length_take]; omega

theorem chosen_ker (N : Nat → Bool) (d s : Nat) (hds : d + s ≤ 256) (hl : d ≤ ((List.range (d + s)).filter N).length) (x : Nat → Nat) (hx : ∀ k, x k < 256) (h : ∀ p, p ∈ chosen N d s → dot d (rowOf d p) x = 0) : ∀ k, k < d → x k = 0 := by
  have hc := chosen_length N d s hl
  have hA : ∀ k, k < d → N k = true → x k = 0 := fun k hk hN => by
    rw [← dot_unit d k hk x fun k _ => hx k]
    refine h k ?_
    rw [chosen_eq]
    exact List.mem_append_left _ (List.mem_filter.2 ⟨List.mem_range.2 hk, hN⟩)
  have key := cauchy ((List.range d).filter fun k => !N k) (((List.range' d s).filter N).take (d - ((List.range d).filter N).length)) ?_ (List.filter_sublist.nodup List.nodup_range)
    (((List.take_sublist _ _).trans List.filter_sublist).nodup List.nodup_range') ?_ ?_ ?_ x (fun j _ => hx j) ?_
  · intro k hk
    cases hN : N k
    · exact key k (List.mem_filter.2 ⟨List.mem_range.2 hk, by simp [hN]⟩)
    · exact hA k hk hN
  · have e1 := List.length_eq_countP_add_countP N (l := List.range d)
    rw [List.countP_eq_length_filter, List.countP_eq_length_filter, List.length_range] at e1
    rw [chosen_eq, List.length_append] at hc
    have e2 : ((List.range d).filter fun k => !N k).length = ((List.range d).filter fun a => decide ¬ N a = true).length := by congr 2; funext k; cases N k <;> simp
    omega
  · intro j hj
    have := List.mem_range.1 (List.mem_filter.1 hj).1; omega
  · intro p hp
    have := (List.mem_filter.1 (List.mem_of_mem_take hp)).1
    simp at this; omega
  · intro j hj p hp
    have h1 := List.mem_range.1 (List.mem_filter.1 hj).1
    have := (List.mem_filter.1 (List.mem_of_mem_take hp)).1
    simp at this; omega
  · intro p hp
    have hp2 := (List.mem_filter.1 (List.mem_of_mem_take hp)).1
    simp at hp2
    rw [csum_filter x p _ _ (by omega) (fun j hj => by have := List.mem_range.1 hj; omega) (fun j hj hN => hA j (List.mem_range.1 hj) (by simpa using hN)), csum_range d p d (by omega) (by omega) (by omega) x fun k _ => hx k]
    refine h p ?_
    rw [chosen_eq]
    exact List.mem_append_right _ hp

/-- At most as many of different numbers are in a list as it has. -/
theorem filter_mem_le (L : List Int) : ∀ l : List Nat, l.Nodup → (l.filter fun (p : Nat) => decide ((p : Int) ∈ L)).length ≤ L.length := by
  induction L with
  | nil => intro l _; simp
  | cons a L ih =>
    intro l hl
    have h1 : ∀ l : List Nat, l.Nodup → (l.filter fun (p : Nat) => decide ((p : Int) ∈ a :: L)).length ≤ (l.filter fun (p : Nat) => decide ((p : Int) = a)).length + (l.filter fun (p : Nat) => decide ((p : Int) ∈ L)).length := by
      intro l _
      induction l with
      | nil => simp
      | cons p l ih2 =>
        have ih2 := ih2 (by simp_all)
        by_cases e1 : (p : Int) = a <;> by_cases e2 : (p : Int) ∈ L <;> simp [List.filter_cons, e1, e2] at ih2 ⊢ <;> try omega
        · simp [← e1, e2]; simp [← e1] at ih2; omega
        · simp [← e1, e2]; simp [← e1] at ih2; omega
    have h2 : ∀ l : List Nat, l.Nodup → (l.filter fun (p : Nat) => decide ((p : Int) = a)).length ≤ 1 := by
      intro l
      induction l with
      | nil => intro _; simp
      | cons p l ih2 =>
        intro hl
        have hl := List.nodup_cons.1 hl
        by_cases e : (p : Int) = a
        · rw [List.filter_cons_of_pos (by simp [e])]
          have : (l.filter fun (p : Nat) => decide ((p : Int) = a)) = [] := by
            rw [List.filter_eq_nil_iff]
            intro q hq
            simp only [decide_eq_true_eq]
            intro e2
            have : p = q := by omega
            exact hl.1 (this ▸ hq)
          rw [this]; simp
        · rw [List.filter_cons_of_neg (by simp [e])]; exact ih2 hl.2
    have := h1 l hl
    have := h2 l hl
    have := ih l hl
    simp only [List.length_cons]; omega
/-- Not lost? -/
def left_ (lost : List Int) (p : Nat) : Bool := !decide ((p : Int) ∈ lost)
theorem enough (d s : Nat) (lost : List Int) (h : lost.length ≤ s) : d ≤ ((List.range (d + s)).filter (left_ lost)).length := by
  have h1 := filter_mem_le lost (List.range (d + s)) List.nodup_range
  have e1 := List.length_eq_countP_add_countP (left_ lost) (l := List.range (d + s))
  rw [List.countP_eq_length_filter, List.countP_eq_length_filter, List.length_range] at e1
  have e2 : ((List.range (d + s)).filter fun a => decide ¬ left_ lost a = true).length = ((List.range (d + s)).filter fun (p : Nat) => decide ((p : Int) ∈ lost)).length := by
    congr 2; funext k; by_cases e : (k : Int) ∈ lost <;> simp [left_, e]
  omega

/-- The byte t of each data piece. -/
def colOf (ps : List (List Nat)) (t k : Nat) : Nat := (ps.getD k []).getD t 0
/-- Data pieces of which the taken pieces are pieces. -/
structure Fits (d L : Nat) (P : List Nat) (pc : Nat → List Nat) (ps : List (List Nat)) : Prop where
  len : ps.length = d
  size : ∀ j, (h : j < ps.length) → ps[j].length = L
  byte : ∀ j, (h : j < ps.length) → Bytes ps[j]
  fits : ∀ p, p ∈ P → ∀ t, t < L → dot d (rowOf d p) (colOf ps t) = (pc p).getD t 0
theorem colOf_lt {ps : List (List Nat)} (h : ∀ j, (h : j < ps.length) → Bytes ps[j]) (t k : Nat) : colOf ps t k < 256 := by
  unfold colOf
  by_cases hk : k < ps.length
  · rw [show ps.getD k [] = ps[k] by simp [hk]]; exact (h k hk).getD t
  · rw [show ps.getD k [] = [] by simp [List.getElem?_eq_none (Nat.le_of_not_lt hk)]]; simp
/-- ████ They are told in one way alone. ████ -/
theorem Fits.sole {d s L : Nat} {N : Nat → Bool} {pc : Nat → List Nat} {ps qs : List (List Nat)} (hds : d + s ≤ 256) (hl : d ≤ ((List.range (d + s)).filter N).length) (h : Fits d L (chosen N d s) pc ps) (k : Fits d L (chosen N d s) pc qs) : ps = qs := by
  have hcol : ∀ t, t < L → ∀ j, j < d → colOf ps t j = colOf qs t j := by
    intro t ht j hj
    have := chosen_ker N d s hds hl (fun j => colOf ps t j ^^^ colOf qs t j) (fun j => xor_lt (colOf_lt h.byte t j) (colOf_lt k.byte t j)) (fun p hp => by
      have hp2 := chosen_lt N d s p hp
      rw [dot_xor d _ _ _ fun j hj => rowOf_lt d p j (by omega) (by omega), h.fits p hp t ht, k.fits p hp t ht, Nat.xor_self]) j hj
    exact xor_eq_zero this
  have hl1 := h.len
  have hl2 := k.len
  apply List.ext_getElem
  · omega
  · intro j h1 h2
    have s1 := h.size j h1
    have s2 := k.size j h2
    apply List.ext_getElem
    · omega
    · intro t h3 h4
      have := hcol t (by omega) j (by omega)
      simpa [colOf, h1, h2, h3, h4] using this
theorem sumTo_dot (row : List Nat) (ps : List (List Nat)) (L t : Nat) (hl : ∀ j, (h : j < ps.length) → ps[j].length = L) (ht : t < L) : ∀ n, n ≤ ps.length → (sumTo row ps L n).getD t 0 = xs (fun k => times (row.getD k 0) (colOf ps t k)) n
  | 0, _ => by simp [sumTo, xs, ht]
  | n + 1, h => by
    have ih := sumTo_dot row ps L t hl ht n (by omega)
    have l0 := sumTo_length row ps L hl n (by omega)
    rw [xs, ← ih, sumTo, addTo]
    have hps : (ps.getD n []).length = L := by simp [show n < ps.length by omega, hl n (by omega)]
    have h1 : t < (sumTo row ps L n).length := by omega
    have h2 : t < (ps.getD n []).length := by omega
    have e1 : (sumTo row ps L n).getD t 0 = (sumTo row ps L n)[t] := by simp [h1]
    have e2 : colOf ps t n = (ps.getD n [])[t] := by unfold colOf; generalize ps.getD n [] = q at h2; simp [h2]
    rw [e1, e2, List.getD_eq_getElem?_getD, List.getElem?_eq_getElem (by simp only [List.length_zipWith]; omega), Option.getD_some, List.getElem_zipWith]
end Go.Proofs.YtmlnejlhgbonpaaDoor.Gf
