/- Rows of words, as the rows of bytes. -/
import Derived.Test.YtlnpppdffhibjaaDoorFromPlanes
namespace Go.Proofs.YtlnpppdffhibjaaDoor.Planes
open Go.RowKit Mem
/-- The slice v reads as these bytes. -/
def WsAt (w : World) (v : Value) (l : List Nat) : Prop :=
  ∃ ao cap, v = .slice ao l.length cap ∧ (l = [] ∨ ∃ b off, ao = some ⟨b, off, none⟩ ∧ b < w.heap.size ∧ ∀ k, (h : k < l.length) → w.cell? ⟨b, off + k, none⟩ = some (.int .u64 (l[k] : Nat)))
/-- The slice v reads as these rows of bytes. -/
def WRowsAt (w : World) (v : Value) (rows : List (List Nat)) : Prop :=
  ∃ ao cap, v = .slice ao rows.length cap ∧ (rows = [] ∨ ∃ b off, ao = some ⟨b, off, none⟩ ∧ b < w.heap.size ∧ ∀ k, (h : k < rows.length) → ∃ u, w.cell? ⟨b, off + k, none⟩ = some u ∧ WsAt w u rows[k])

section
variable {w w' : World} {v : Value}
theorem WsAt.to {l : List Nat} (h : WsAt w v l) (hb : Below w.heap.size w w') : WsAt w' v l := by
  obtain ⟨ao, cap, rfl, h⟩ := h
  refine ⟨ao, cap, rfl, ?_⟩
  rcases h with h | ⟨b, off, rfl, hlt, hc⟩
  · exact .inl h
  · exact .inr ⟨b, off, rfl, Nat.lt_of_lt_of_le hlt hb.size, fun k hk => by rw [hb.cell (p := ⟨b, off + k, none⟩) hlt]; exact hc k hk⟩
theorem WRowsAt.to {rows : List (List Nat)} (h : WRowsAt w v rows) (hb : Below w.heap.size w w') : WRowsAt w' v rows := by
  obtain ⟨ao, cap, rfl, h⟩ := h
  refine ⟨ao, cap, rfl, ?_⟩
  rcases h with h | ⟨b, off, rfl, hlt, hc⟩
  · exact .inl h
  · refine .inr ⟨b, off, rfl, Nat.lt_of_lt_of_le hlt hb.size, fun k hk => ?_⟩
    obtain ⟨u, hu, hr⟩ := hc k hk
    exact ⟨u, by rw [hb.cell (p := ⟨b, off + k, none⟩) hlt]; exact hu, hr.to hb⟩
theorem WsAt.of_blk {b : Nat} {t : TypeId} {l : List Nat} (h : Blk w b t (wordsV l)) (n cap : Nat) (hn : n = l.length) : WsAt w (.slice (some ⟨b, 0, none⟩) n cap) l := by
  subst hn
  exact ⟨_, _, rfl, .inr ⟨b, 0, rfl, h.lt, fun k hk => by rw [Nat.zero_add, h.cell k, wordsV_at hk]⟩⟩
theorem WsAt.pos {l : List Nat} (h : WsAt w v l) (hl : 0 < l.length) : ∃ b off cap, v = .slice (some ⟨b, off, none⟩) l.length cap ∧ b < w.heap.size ∧ ∀ k, (h : k < l.length) → w.cell? ⟨b, off + k, none⟩ = some (.int .u64 (l[k] : Nat)) := by
  obtain ⟨ao, cap, rfl, h1⟩ := h
  rcases h1 with h | ⟨b, off, rfl, hlt, hc⟩
  · subst h; simp at hl
  · exact ⟨b, off, cap, rfl, hlt, hc⟩
theorem WRowsAt.pos {rows : List (List Nat)} (h : WRowsAt w v rows) (hl : 0 < rows.length) : ∃ b off cap, v = .slice (some ⟨b, off, none⟩) rows.length cap ∧ b < w.heap.size ∧ ∀ k, (h : k < rows.length) → ∃ u, w.cell? ⟨b, off + k, none⟩ = some u ∧ WsAt w u rows[k] := by
  obtain ⟨ao, cap, rfl, h1⟩ := h
  rcases h1 with h | ⟨b, off, rfl, hlt, hc⟩
  · subst h; simp at hl
  · exact ⟨b, off, cap, rfl, hlt, hc⟩
end

/-- A row of bytes of the call's own: a block of its own, of just that length. -/
def OwnW (w : World) (u : Value) (l : List Nat) : Prop := ∃ b, u = .slice (some ⟨b, 0, none⟩) l.length l.length ∧ Blk w b 138 (wordsV l)
theorem OwnW.bs {w : World} {u : Value} {l : List Nat} (h : OwnW w u l) : WsAt w u l := by
  obtain ⟨b, rfl, hb⟩ := h
  exact WsAt.of_blk hb _ _ rfl
theorem OwnW.to {w w' : World} {u : Value} {l : List Nat} (h : OwnW w u l) (hb : Below w.heap.size w w') : OwnW w' u l := by
  obtain ⟨b, rfl, h⟩ := h
  exact ⟨b, rfl, h.to hb⟩

theorem OwnW.set {w : World} {u : Value} {l : List Nat} (h : OwnW w u l) {B : Nat} {t : TypeId} {us : List Value} (hB : Blk w B t us) (ht : 138 ≠ t) (k : Nat) (x : Value) : OwnW (w.setCell ⟨B, k, none⟩ x) u l := by
  obtain ⟨b, rfl, h⟩ := h
  exact ⟨b, rfl, h.other (h.type_ne hB ht) _⟩
/-- A row of rows that is being filled: the first i are made. -/
def FilledW (w : World) (B n i : Nat) (f : Nat → List Nat) : Prop := ∃ us : List Value, us.length = n ∧ Blk w B 126 us ∧ ∀ k, k < i → ∃ u, us[k]? = some u ∧ OwnW w u (f k)
theorem FilledW.to {w w' : World} {B n i : Nat} {f : Nat → List Nat} (h : FilledW w B n i f) (hb : Below w.heap.size w w') : FilledW w' B n i f := by
  obtain ⟨us, hl, hB, hf⟩ := h
  refine ⟨us, hl, hB.to hb, fun k hk => ?_⟩
  obtain ⟨u, hu, ho⟩ := hf k hk
  exact ⟨u, hu, ho.to hb⟩
theorem FilledW.lt {w : World} {B n i : Nat} {f : Nat → List Nat} (h : FilledW w B n i f) : B < w.heap.size := by
  obtain ⟨us, hl, hB, hf⟩ := h; exact hB.lt
theorem FilledW.cell {w : World} {B n i : Nat} {f : Nat → List Nat} (h : FilledW w B n i f) {k : Nat} (hk : k < n) : (∃ v, w.cell? ⟨B, k, none⟩ = some v) ∧ w.frozen? ⟨B, k, none⟩ = false := by
  obtain ⟨us, hl, hB, hf⟩ := h
  exact ⟨⟨us[k]'(by omega), hB.cell_some (by simp [show k < us.length by omega])⟩, hB.free k⟩
theorem FilledW.step {w : World} {B n i : Nat} {f : Nat → List Nat} (h : FilledW w B n i f) (hi : i < n) {u : Value} (ho : OwnW w u (f i)) : FilledW (w.setCell ⟨B, i, none⟩ u) B n (i + 1) f := by
  obtain ⟨us, hl, hB, hf⟩ := h
  refine ⟨us.set i u, by simpa using hl, hB.set i u, fun k hk => ?_⟩
  by_cases e : k = i
  · subst e
    exact ⟨u, by simp [show k < us.length by omega], ho.set hB (by decide) _ _⟩
  · obtain ⟨v, hv, hov⟩ := hf k (by omega)
    exact ⟨v, by rw [List.getElem?_set_ne (by omega)]; exact hv, hov.set hB (by decide) _ _⟩
theorem FilledW.zero {w : World} {B n : Nat} {us : List Value} (h : Blk w B 126 us) (hl : us.length = n) (f : Nat → List Nat) : FilledW w B n 0 f := ⟨us, hl, h, fun k hk => by omega⟩
theorem FilledW.row {w : World} {B n i : Nat} {f : Nat → List Nat} (h : FilledW w B n i f) {k : Nat} (hk : k < i) : ∃ u, w.cell? ⟨B, k, none⟩ = some u ∧ OwnW w u (f k) := by
  obtain ⟨us, hl, hB, hf⟩ := h
  obtain ⟨u, hu, ho⟩ := hf k hk
  exact ⟨u, hB.cell_some hu, ho⟩
theorem FilledW.rows {w : World} {B n : Nat} {f : Nat → List Nat} (h : FilledW w B n n f) {rows : List (List Nat)} (hr : rows.length = n) (he : ∀ k, (h : k < rows.length) → rows[k] = f k) : WRowsAt w (.slice (some ⟨B, 0, none⟩) n n) rows := by
  refine ⟨_, _, by rw [hr], .inr ⟨B, 0, rfl, h.lt, fun k hk => ?_⟩⟩
  obtain ⟨u, hu, ho⟩ := h.row (k := k) (by omega)
  exact ⟨u, by rw [Nat.zero_add]; exact hu, by rw [he k hk]; exact ho.bs⟩
end Go.Proofs.YtlnpppdffhibjaaDoor.Planes
