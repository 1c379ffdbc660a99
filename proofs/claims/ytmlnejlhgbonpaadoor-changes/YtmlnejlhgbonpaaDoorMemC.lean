/- Slices of bytes whose room is no less than their length: such as may be cut again. -/
import Derived.Test.YtmlnejlhgbonpaaDoorMem
namespace Go.Proofs.YtmlnejlhgbonpaaDoor.Mem
open Go.RowKit
def BsC (w : World) (v : Value) (l : List Nat) : Prop :=
  ∃ ao ex, v = .slice ao l.length (l.length + ex) ∧ (l = [] ∨ ∃ b off, ao = some ⟨b, off, none⟩ ∧ b < w.heap.size ∧ ∀ k, (h : k < l.length) → w.cell? ⟨b, off + k, none⟩ = some (.int .u8 (l[k] : Nat)))
def RowsC (w : World) (v : Value) (rows : List (List Nat)) : Prop :=
  ∃ ao ex, v = .slice ao rows.length (rows.length + ex) ∧ (rows = [] ∨ ∃ b off, ao = some ⟨b, off, none⟩ ∧ b < w.heap.size ∧ ∀ k, (h : k < rows.length) → ∃ u, w.cell? ⟨b, off + k, none⟩ = some u ∧ BsC w u rows[k])
section
variable {w w' : World} {v : Value}
theorem BsC.bs {l : List Nat} (h : BsC w v l) : BsAt w v l := by
  obtain ⟨ao, ex, rfl, h⟩ := h
  exact ⟨ao, _, rfl, h⟩
theorem BsC.to {l : List Nat} (h : BsC w v l) (hb : Below w.heap.size w w') : BsC w' v l := by
  obtain ⟨ao, cap, rfl, h⟩ := h
  refine ⟨ao, cap, rfl, ?_⟩
  rcases h with h | ⟨b, off, rfl, hlt, hc⟩
  · exact .inl h
  · exact .inr ⟨b, off, rfl, Nat.lt_of_lt_of_le hlt hb.size, fun k hk => by rw [hb.cell (p := ⟨b, off + k, none⟩) hlt]; exact hc k hk⟩
theorem RowsC.rows {rows : List (List Nat)} (h : RowsC w v rows) : RowsAt w v rows := by
  obtain ⟨ao, cap, rfl, h⟩ := h
  refine ⟨ao, _, rfl, ?_⟩
  rcases h with h | ⟨b, off, rfl, hlt, hc⟩
  · exact .inl h
  · refine .inr ⟨b, off, rfl, hlt, fun k hk => ?_⟩
    obtain ⟨u, hu, hr⟩ := hc k hk
    exact ⟨u, hu, hr.bs⟩
theorem RowsC.to {rows : List (List Nat)} (h : RowsC w v rows) (hb : Below w.heap.size w w') : RowsC w' v rows := by
  obtain ⟨ao, cap, rfl, h⟩ := h
  refine ⟨ao, cap, rfl, ?_⟩
  rcases h with h | ⟨b, off, rfl, hlt, hc⟩
  · exact .inl h
  · refine .inr ⟨b, off, rfl, Nat.lt_of_lt_of_le hlt hb.size, fun k hk => ?_⟩
    obtain ⟨u, hu, hr⟩ := hc k hk
    exact ⟨u, by rw [hb.cell (p := ⟨b, off + k, none⟩) hlt]; exact hu, hr.to hb⟩
theorem RowsC.pos {rows : List (List Nat)} (h : RowsC w v rows) (hl : 0 < rows.length) : ∃ b off cap, v = .slice (some ⟨b, off, none⟩) rows.length cap ∧ b < w.heap.size ∧ ∀ k, (h : k < rows.length) → ∃ u, w.cell? ⟨b, off + k, none⟩ = some u ∧ BsC w u rows[k] := by
  obtain ⟨ao, cap, rfl, h1⟩ := h
  rcases h1 with h | ⟨b, off, rfl, hlt, hc⟩
  · subst h; simp at hl
  · exact ⟨b, off, _, rfl, hlt, hc⟩
end
theorem OwnAt.bsC {w : World} {u : Value} {l : List Nat} (h : OwnAt w u l) : BsC w u l := by
  obtain ⟨b, rfl, hb⟩ := h
  exact ⟨_, 0, rfl, .inr ⟨b, 0, rfl, hb.lt, fun k hk => by rw [Nat.zero_add, hb.cell k, bytesV_at hk]⟩⟩
theorem Filled.rowsC {w : World} {B n : Nat} {f : Nat → List Nat} (h : Filled w B n n f) {rows : List (List Nat)} (hr : rows.length = n) (he : ∀ k, (h : k < rows.length) → rows[k] = f k) : RowsC w (.slice (some ⟨B, 0, none⟩) n n) rows := by
  refine ⟨_, 0, by rw [hr, Nat.add_zero], .inr ⟨B, 0, rfl, h.lt, fun k hk => ?_⟩⟩
  obtain ⟨u, hu, ho⟩ := h.row (k := k) (by omega)
  exact ⟨u, by rw [Nat.zero_add]; exact hu, by rw [he k hk]; exact ho.bsC⟩
end Go.Proofs.YtmlnejlhgbonpaaDoor.Mem
