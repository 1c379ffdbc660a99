/- Rows of bytes that came of strings, in memory. -/
import Derived.Test.YtmlnejlhgbonpaaDoorChangeMath
import Derived.Test.YtmlnejlhgbonpaaDoorParts
import Derived.Test.YtmlnejlhgbonpaaDoorPlanMem
import Derived.Lib.ConvBytes
namespace Go.Proofs.YtmlnejlhgbonpaaDoor.Ref
open Go.RowKit Mem FieldWalks Tab ByTab Parts
open Gf (Bytes)
open Plans (But rowF)

/-- The block b begins with these bytes, and they may be written. -/
def Row8 (w : World) (b : Nat) (l : List Nat) : Prop :=
  ∃ cs fr, w.heap[b]? = some (.cells cs 5 fr) ∧ (∀ k, (h : k < l.length) → cs[k]? = some (.int .u8 (l[k] : Nat))) ∧ l.length ≤ cs.size ∧ (cs.size ≤ fr.1 ∨ fr = (0, 0))
section
variable {w w' : World} {b : Nat} {l : List Nat}
theorem Row8.lt (h : Row8 w b l) : b < w.heap.size := by obtain ⟨cs, fr, h, _⟩ := h; exact lt_of_block h
theorem Row8.cell (h : Row8 w b l) (k : Nat) (hk : k < l.length) : w.cell? ⟨b, k, none⟩ = some (.int .u8 (l[k] : Nat)) := by
  obtain ⟨cs, fr, h, hc, _⟩ := h
  rw [cell_of_row w b k cs 5 fr h]; exact hc k hk
theorem Row8.free (h : Row8 w b l) (k : Nat) (hk : k < l.length) : w.frozen? ⟨b, k, none⟩ = false := by
  obtain ⟨cs, fr, h, hc, hl, hf⟩ := h
  unfold World.frozen?
  simp only [h]
  rcases hf with hf | rfl
  · simp; intro h1; omega
  · simp
theorem Row8.of_block (h : Row8 w b l) (e : w'.heap[b]? = w.heap[b]?) : Row8 w' b l := by
  obtain ⟨cs, fr, h, r⟩ := h
  exact ⟨cs, fr, e.trans h, r⟩
theorem Row8.to (h : Row8 w b l) (hb : Below w.heap.size w w') : Row8 w' b l := h.of_block (hb.block b h.lt)
theorem Row8.other (h : Row8 w b l) {a : Addr} (ha : b ≠ a.block) (u : Value) : Row8 (w.setCell a u) b l := h.of_block (heap_setCell_other w a b u ha)
theorem Row8.type_ne {c : Nat} {t : TypeId} {us : List Value} (h : Row8 w b l) (k : Blk w c t us) (ht : 5 ≠ t) : b ≠ c := by
  intro e; subst e
  obtain ⟨cs, fr, h, _⟩ := h
  unfold Blk at k
  rw [h] at k
  simp at k
  exact ht k.2.1
theorem Row8.set (h : Row8 w b l) (k x : Nat) : Row8 (w.setCell ⟨b, k, none⟩ (.int .u8 (x : Nat))) b (l.set k x) := by
  obtain ⟨cs, fr, h, hc, hl, hf⟩ := h
  have e : (w.setCell ⟨b, k, none⟩ (.int .u8 (x : Nat))).heap[b]? = some (.cells (cs.setIfInBounds k (.int .u8 (x : Nat))) 5 fr) := by
    unfold World.setCell
    simp only [Array.getElem?_modify, h]
    simp
  refine ⟨_, fr, e, fun i hi => ?_, by simpa using hl, by simpa using hf⟩
  have hi' : i < l.length := by simpa using hi
  by_cases e1 : k = i
  · subst e1
    rw [Array.getElem?_setIfInBounds_self_of_lt (by omega)]
    simp
  · rw [Array.getElem?_setIfInBounds_ne e1, hc i hi', List.getElem_set_ne e1]
theorem Row8.new (w : World) (s : ByteArray) : Row8 (Lib.bytesWorld w 5 s) w.heap.size (nums s) := by
  refine ⟨_, _, Lib.bytesWorld_at_new w 5 s, fun k hk => ?_, ?_, .inl (Nat.le_refl _)⟩
  · have hk' : k < s.size := by rw [nums_length] at hk; exact hk
    have hk2 : k < s.data.size := hk'
    unfold Lib.bytesCells
    rw [Array.getElem?_append_left (by simpa using hk2)]
    simp only [nums, Array.getElem?_map, Array.getElem?_eq_getElem hk2]
    simp
  · rw [nums_length]; unfold Lib.bytesCells; simp
end
theorem below_bytes (w : World) (s : ByteArray) : Below w.heap.size w (Lib.bytesWorld w 5 s) :=
  ⟨rfl, rfl, rfl, by rw [Lib.bytesWorld_size]; omega, fun k hk => Lib.bytesWorld_at_old w 5 s k hk⟩

/-- The list at block g has n rows, each in a block of its own, of L bytes. -/
structure OutAt (w : World) (g n L : Nat) (bs : List Nat) (us : List Value) (rows : Nat → List Nat) : Prop where
  list : Blk w g 71 us
  len : bs.length = n
  nodup : bs.Nodup
  size : ∀ p, p < n → (rows p).length = L
  at_ : ∀ p, (h : p < bs.length) → ∃ c, us[p]? = some (.slice (some ⟨bs[p], 0, none⟩) L c)
  row : ∀ p, (h : p < bs.length) → Row8 w bs[p] (rows p)
section
variable {w w' : World} {g n L : Nat} {bs : List Nat} {us : List Value} {rows : Nat → List Nat}
theorem OutAt.to (h : OutAt w g n L bs us rows) (hb : Below w.heap.size w w') : OutAt w' g n L bs us rows := ⟨h.list.to hb, h.len, h.nodup, h.size, h.at_, fun p hp => (h.row p hp).to hb⟩
theorem OutAt.congr {rows' : Nat → List Nat} (h : OutAt w g n L bs us rows) (e : ∀ p, p < n → rows' p = rows p) : OutAt w g n L bs us rows' := by
  have := h.len
  exact ⟨h.list, h.len, h.nodup, fun p hp => by rw [e p hp]; exact h.size p hp, h.at_, fun p hp => by rw [e p (by omega)]; exact h.row p hp⟩
theorem OutAt.set (h : OutAt w g n L bs us rows) (p : Nat) (hp : p < bs.length) (t x : Nat) : OutAt (w.setCell ⟨bs[p], t, none⟩ (.int .u8 (x : Nat))) g n L bs us (fun q => if q = p then (rows p).set t x else rows q) := by
  have hl := h.len
  refine ⟨h.list.other (Ne.symm ((h.row p hp).type_ne h.list (by decide))) _, h.len, h.nodup, fun q hq => ?_, h.at_, fun q hq => ?_⟩
  · split
    · rw [List.length_set]; exact h.size p (by omega)
    · exact h.size q hq
  · by_cases e : q = p
    · subst e; rw [if_pos rfl]; exact (h.row q hq).set t x
    · rw [if_neg e]
      refine (h.row q hq).other ?_ _
      intro e2
      have hnd := h.nodup
      rw [List.Nodup, List.pairwise_iff_getElem] at hnd
      rcases Nat.lt_or_gt_of_ne e with hlt | hlt
      · exact hnd q p hq hp hlt e2
      · exact hnd p q hp hq hlt e2.symm
/-- Reading: the row's slice, its byte. -/
theorem OutAt.read (h : OutAt w g n L bs us rows) (p : Nat) (hp : p < n) : ∃ b c, bs[p]? = some b ∧ w.cell? ⟨g, p, none⟩ = some (.slice (some ⟨b, 0, none⟩) L c) ∧ b ≠ g ∧ b < w.heap.size ∧ ∀ t, (ht : t < L) → w.cell? ⟨b, t, none⟩ = some (.int .u8 ((rows p).getD t 0 : Nat)) ∧ w.frozen? ⟨b, t, none⟩ = false := by
  have hl := h.len
  have hpl : p < bs.length := by omega
  obtain ⟨c, hc⟩ := h.at_ p hpl
  have hr := h.row p hpl
  refine ⟨bs[p], c, by simp [hpl], h.list.cell_some hc, hr.type_ne h.list (by decide), hr.lt, fun t ht => ?_⟩
  have ht2 : t < (rows p).length := by rw [h.size p hp]; exact ht
  rw [hr.cell t ht2]
  exact ⟨by simp [ht2], hr.free t ht2⟩
end
end Go.Proofs.YtmlnejlhgbonpaaDoor.Ref
