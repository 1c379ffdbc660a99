/- What a writing makes of pieces, byte by byte. Nothing of the program. -/
import Derived.Test.YtmlnejlhgbonpaaDoorChosen
namespace Go.Proofs.YtmlnejlhgbonpaaDoor.Gf

/-- The data byte t of piece j, when the first k bytes of the writing stand. -/
def newD (L at_ : Nat) (text : List Nat) (k : Nat) (old : Nat → Nat → Nat) (j t : Nat) : Nat := if at_ ≤ j * L + t ∧ j * L + t < at_ + k then text.getD (j * L + t - at_) 0 else old j t
/-- The byte t of piece p. -/
def newP (d L at_ : Nat) (text : List Nat) (k : Nat) (old : Nat → Nat → Nat) (p t : Nat) : Nat :=
  if p < d then newD L at_ text k old p t else old p t ^^^ xs (fun j => times (inv (p ^^^ j)) (old j t ^^^ newD L at_ text k old j t)) d
theorem place_iff {L at_ k j t : Nat} (ht : t < L) : j * L + t = at_ + k ↔ j = (at_ + k) / L ∧ t = (at_ + k) % L := by
  constructor
  · intro h
    rw [← h]
    constructor
    · rw [Nat.add_comm, Nat.add_mul_div_right _ _ (by omega), Nat.div_eq_of_lt ht]; omega
    · rw [Nat.add_comm, Nat.add_mul_mod_self_right, Nat.mod_eq_of_lt ht]
  · rintro ⟨rfl, rfl⟩
    rw [Nat.mul_comm]; exact Nat.div_add_mod _ _
theorem newD_zero (L at_ : Nat) (text : List Nat) (old : Nat → Nat → Nat) (j t : Nat) : newD L at_ text 0 old j t = old j t := by unfold newD; rw [if_neg (by omega)]
theorem newP_zero (d L at_ : Nat) (text : List Nat) (old : Nat → Nat → Nat) (p t : Nat) : newP d L at_ text 0 old p t = old p t := by
  unfold newP
  rw [newD_zero]
  split
  · rfl
  · rw [xs_zero, Nat.xor_zero]
    intro j _
    rw [newD_zero, Nat.xor_self]
    have : ∀ a, times a 0 = 0 := fun a => by unfold times; simp [timesTo, dbl]
    exact this _
theorem newD_next {L at_ k j t : Nat} {text : List Nat} {old : Nat → Nat → Nat} (ht : t < L) : newD L at_ text (k + 1) old j t = if j = (at_ + k) / L ∧ t = (at_ + k) % L then text.getD k 0 else newD L at_ text k old j t := by
  unfold newD
  by_cases e : j * L + t = at_ + k
  · rw [if_pos ((place_iff ht).1 e), if_pos (by omega), show j * L + t - at_ = k by omega]
  · rw [if_neg (fun h => e ((place_iff ht).2 h))]
    by_cases h : at_ ≤ j * L + t ∧ j * L + t < at_ + k
    · rw [if_pos (by omega), if_pos h]
    · rw [if_neg (by omega), if_neg h]
theorem newD_here {L at_ k : Nat} {text : List Nat} {old : Nat → Nat → Nat} (hL : 0 < L) : newD L at_ text k old ((at_ + k) / L) ((at_ + k) % L) = old ((at_ + k) / L) ((at_ + k) % L) := by
  unfold newD
  have := (place_iff (L := L) (at_ := at_) (k := k) (j := (at_ + k) / L) (t := (at_ + k) % L) (Nat.mod_lt _ hL)).2 ⟨rfl, rfl⟩
  rw [if_neg (by omega)]
/-- A data piece: one byte is written. -/
theorem newP_data {d L at_ k p t : Nat} {text : List Nat} {old : Nat → Nat → Nat} (ht : t < L) (hp : p < d) : newP d L at_ text (k + 1) old p t = if p = (at_ + k) / L ∧ t = (at_ + k) % L then text.getD k 0 else newP d L at_ text k old p t := by
  unfold newP
  rw [if_pos hp, if_pos hp, newD_next ht]
/-- A spare piece: what was added to the data byte, times the factor, is added. -/
theorem newP_spare {d L at_ k p t : Nat} {text : List Nat} {old : Nat → Nat → Nat} (ht : t < L) (hp : ¬ p < d) (hp2 : p < 256) (hd : d ≤ 256) (hj : (at_ + k) / L < d) :
    newP d L at_ text (k + 1) old p t = if t = (at_ + k) % L then newP d L at_ text k old p t ^^^ times (inv (p ^^^ ((at_ + k) / L))) (newP d L at_ text k old ((at_ + k) / L) t ^^^ text.getD k 0) else newP d L at_ text k old p t := by
  have e0 : newP d L at_ text k old ((at_ + k) / L) t = newD L at_ text k old ((at_ + k) / L) t := by unfold newP; rw [if_pos hj]
  rw [e0]
  unfold newP
  rw [if_neg hp, if_neg hp]
  by_cases e : t = (at_ + k) % L
  · rw [if_pos e]
    have hF : ∀ j, j < d → inv (p ^^^ j) < 256 := fun j hj => inv_lt _ (xor_lt hp2 (by omega))
    have key : xs (fun j => times (inv (p ^^^ j)) (old j t ^^^ newD L at_ text (k + 1) old j t)) d =
        xs (fun j => times (inv (p ^^^ j)) (old j t ^^^ newD L at_ text k old j t)) d ^^^ times (inv (p ^^^ ((at_ + k) / L))) (newD L at_ text k old ((at_ + k) / L) t ^^^ text.getD k 0) := by
      have e2 : xs (fun j => if j = (at_ + k) / L then times (inv (p ^^^ ((at_ + k) / L))) (newD L at_ text k old ((at_ + k) / L) t ^^^ text.getD k 0) else 0) d = times (inv (p ^^^ ((at_ + k) / L))) (newD L at_ text k old ((at_ + k) / L) t ^^^ text.getD k 0) := by
        rw [xs_one _ d _ hj fun j _ hne => by rw [if_neg hne]]; rw [if_pos rfl]
      rw [← e2, ← xs_xor]
      refine xs_congr fun j hjd => ?_
      rw [newD_next ht]
      by_cases e3 : j = (at_ + k) / L
      · rw [if_pos ⟨e3, e⟩, if_pos e3, ← e3, ← times_xor_r _ _ _ (hF j hjd)]
        congr 1
        rw [Nat.xor_assoc, xcl]
      · rw [if_neg (fun h => e3 h.1), if_neg e3, Nat.xor_zero]
    rw [key, Nat.xor_assoc]
  · rw [if_neg e]
    congr 1
    refine xs_congr fun j _ => ?_
    rw [newD_next ht, if_neg (fun h => e h.2)]
theorem newP_lt {d L at_ k p t : Nat} {text : List Nat} {old : Nat → Nat → Nat} (hb : Bytes text) (ho : ∀ p t, old p t < 256) (hp : p < 256) (hd : d ≤ 256) : newP d L at_ text k old p t < 256 := by
  have hD : ∀ j t, newD L at_ text k old j t < 256 := fun j t => by
    unfold newD; split
    · exact hb.getD _
    · exact ho j t
  unfold newP
  split
  · exact hD p t
  · exact xor_lt (ho p t) (xs_lt _ _ fun j hj => times_lt _ _ (inv_lt _ (xor_lt hp (by omega))))
end Go.Proofs.YtmlnejlhgbonpaaDoor.Gf
