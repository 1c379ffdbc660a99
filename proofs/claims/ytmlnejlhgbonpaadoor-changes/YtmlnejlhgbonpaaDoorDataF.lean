import Derived.Test.YtmlnejlhgbonpaaDoorSolveMem
namespace Go.Proofs.YtmlnejlhgbonpaaDoor.Ref
open Go.RowKit Mem FieldWalks Tab ByTab Parts
open Gf (Bytes)

/-- The data rows while they are being filled: the first j are whole. -/
def DataF (w : World) (D d L j : Nat) (f : Nat → List Nat) : Prop :=
  ∃ us : List Value, us.length = d ∧ Blk w D 71 us ∧ (∀ k, k < j → ∃ u, us[k]? = some u ∧ w.ownsRow 0 5 1 u L (bytesV (f k))) ∧ ∀ k, j ≤ k → k < d → us[k]? = some (.slice none 0 0)
theorem DataF.start (w : World) (d L : Nat) (f : Nat → List Nat) : DataF (w.alloc (.cells (madeCells #[.slice none 0 0] d) 71)) w.heap.size d L 0 f := by
  refine ⟨List.replicate d (.slice none 0 0), by simp, (Blk.new w _ _).eq (toList_madeCells_one _ d), fun k hk => by omega, fun k _ hk => by simp [hk]⟩
theorem DataF.rows {w : World} {D d L : Nat} {f : Nat → List Nat} (h : DataF w D d L d f) (hf : ∀ k, k < d → (f k).length = L) : RowsAt w (.slice (some ⟨D, 0, none⟩) d d) ((List.range d).map f) := by
  obtain ⟨us, hl, hB, hfs, _⟩ := h
  refine ⟨_, d, by rw [show ((List.range d).map f).length = d by simp], .inr ⟨D, 0, rfl, hB.lt, fun k hk => ?_⟩⟩
  simp only [List.length_map, List.length_range] at hk
  obtain ⟨u, hu, ho⟩ := hfs k hk
  refine ⟨u, by rw [Nat.zero_add]; exact hB.cell_some hu, ?_⟩
  have e : ((List.range d).map f)[k]'(by simpa using hk) = f k := by simp
  rw [e]
  refine BsAt.of_owns (base := 0) (t := 5) ?_
  rw [hf k hk]
  exact ho
theorem DataF.laid {w W : World} {D d L j : Nat} {f : Nat → List Nat} {v : Value} (h : DataF w D d L j f) (hj : j < d) (hl : Laid w W D j v) (ho : W.ownsRow 0 5 1 v L (bytesV (f j))) : DataF W D d L (j + 1) f := by
  obtain ⟨us, hlen, hB, hf, hn⟩ := h
  refine ⟨us.set j v, by simpa using hlen, hl.row.trans (hB.set j v), fun k hk => ?_, fun k h1 h2 => ?_⟩
  · by_cases e : k = j
    · subst e; exact ⟨v, by simp [show k < us.length by omega], ho⟩
    · obtain ⟨u, hu, hou⟩ := hf k (by omega)
      exact ⟨u, by rw [List.getElem?_set_ne (by omega)]; exact hu, ownsRow_laid hou hl hB (by decide)⟩
  · rw [List.getElem?_set_ne (by omega)]; exact hn k (by omega) h2
theorem DataF.first {w : World} {D d L j : Nat} {f : Nat → List Nat} (h : DataF w D d L j f) (hj : j < d) : Laid w w D j (.slice none 0 0) := by
  obtain ⟨us, hlen, hB, hf, hn⟩ := h
  refine ⟨Nat.le_refl _, fun _ _ _ => rfl, ?_⟩
  have := hn j (Nat.le_refl _) hj
  have e : us.set j (.slice none 0 0) = us := by
    apply List.ext_getElem?
    intro k
    by_cases hk : k = j
    · subst hk; rw [this]; simp [show k < us.length by omega]
    · rw [List.getElem?_set_ne (by omega)]
  have := hB.set j (.slice none 0 0)
  rw [e] at this
  exact hB.trans this.symm
theorem DataF.blk {w : World} {D d L j : Nat} {f : Nat → List Nat} (h : DataF w D d L j f) : ∃ us : List Value, us.length = d ∧ Blk w D 71 us := by
  obtain ⟨us, hlen, hB, _⟩ := h; exact ⟨us, hlen, hB⟩
theorem DataF.to {w w' : World} {D d L j : Nat} {f : Nat → List Nat} (h : DataF w D d L j f) (hb : Below w.heap.size w w') : DataF w' D d L j f := by
  obtain ⟨us, hlen, hB, hf, hn⟩ := h
  refine ⟨us, hlen, hB.to hb, fun k hk => ?_, hn⟩
  obtain ⟨u, hu, ho⟩ := hf k hk
  exact ⟨u, hu, ownsRow_to ho hb⟩
/-- The first t bytes of a row. -/
def firstV (l : List Nat) (t : Nat) : List Value := (bytesV l).take t
theorem firstV_next (l : List Nat) (t : Nat) (ht : t < l.length) : firstV l t ++ [.int .u8 (l[t] : Nat)] = firstV l (t + 1) := by
  have hlen : t < (bytesV l).length := by simpa using ht
  unfold firstV
  rw [List.take_add_one, List.getElem?_eq_getElem hlen, bytesV_getElem]
  rfl
theorem firstV_all (l : List Nat) : firstV l l.length = bytesV l := List.take_of_length_le (by simp)
theorem owns_zero {w : World} {base n : Nat} {e : TypeId} {v : Value} {xs : List Value} (h : w.ownsRow base e 1 v n xs) : w.ownsRow 0 e 1 v n xs := by
  obtain ⟨h1, h2⟩ := h
  refine ⟨h1, ?_⟩
  rcases h2 with h2 | ⟨g, cap, cur, hv, hg, r⟩
  · exact Or.inl h2
  · exact Or.inr ⟨g, cap, cur, hv, Nat.zero_le _, r⟩
end Go.Proofs.YtmlnejlhgbonpaaDoor.Ref
