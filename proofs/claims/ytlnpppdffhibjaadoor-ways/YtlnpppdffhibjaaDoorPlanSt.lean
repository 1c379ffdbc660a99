import Derived.Test.YtlnpppdffhibjaaDoorPlanMath
import Derived.Test.YtlnpppdffhibjaaDoorMemC
namespace Go.Proofs.YtlnpppdffhibjaaDoor.Plans
open Go.RowKit Mem FieldWalks Tab ByTab Planes
open Gf (sumTo addTo Bytes)

/-- The rows of the sums: blocks of their own, one behind the other. -/
def rowsV (B L m : Nat) : List Value := (List.range m).map fun i => .slice (some ⟨B + 1 + i, 0, none⟩) L L
theorem rowsV_length (B L m : Nat) : (rowsV B L m).length = m := by simp [rowsV]
theorem rowsV_at {B L m i : Nat} (h : i < m) : (rowsV B L m)[i]? = some (.slice (some ⟨B + 1 + i, 0, none⟩) L L) := by simp [rowsV, h]
structure SumsSt (wx : World) (B m L : Nat) (g : Nat → Nat → Nat) : Prop where
  row : Blk wx B 93 (rowsV B L m)
  each : ∀ i, i < m → Blk wx (B + 1 + i) 5 (bytesV (rowF L (g i)))
theorem SumsSt.to {w w' : World} {B m L : Nat} {g : Nat → Nat → Nat} (h : SumsSt w B m L g) (hb : Below w.heap.size w w') : SumsSt w' B m L g := ⟨h.row.to hb, fun i hi => (h.each i hi).to hb⟩
theorem SumsSt.but {w w' : World} {B m L S : Nat} {g : Nat → Nat → Nat} {us : List Value} (h : SumsSt w B m L g) (hb : But S w w') (hS : Blk w S 138 us) : SumsSt w' B m L g :=
  ⟨hb.blk h.row (h.row.type_ne hS (by decide)), fun i hi => hb.blk (h.each i hi) ((h.each i hi).type_ne hS (by decide))⟩
theorem SumsSt.congr {w : World} {B m L : Nat} {g g' : Nat → Nat → Nat} (h : SumsSt w B m L g) (e : ∀ i, i < m → ∀ q, q < L → g i q = g' i q) : SumsSt w B m L g' :=
  ⟨h.row, fun i hi => (h.each i hi).eq (by rw [rowF_congr (e i hi)])⟩
/-- One row is written anew. -/
theorem SumsSt.put {w w' : World} {B m L i : Nat} {g : Nat → Nat → Nat} {g1 : Nat → Nat} (h : SumsSt w B m L g) (hb : But (B + 1 + i) w w') (hi : Blk w' (B + 1 + i) 5 (bytesV (rowF L g1))) : SumsSt w' B m L (fun k => if k = i then g1 else g k) := by
  refine ⟨hb.blk h.row (by omega), fun k hk => ?_⟩
  by_cases e : k = i
  · subst e; simp only [if_true]; exact hi
  · rw [if_neg e]; exact hb.blk (h.each k hk) (by omega)
theorem SumsSt.rows {w : World} {B L : Nat} {g : Nat → Nat → Nat} {rows ps : List (List Nat)} (h : SumsSt w B rows.length L g) (hl : ∀ j, (h : j < ps.length) → ps[j].length = L) (hg : ∀ i, i < rows.length → ∀ q, q < L → g i q = (sumTo (rows.getD i []) ps L ps.length).getD q 0) :
    RowsC w (.slice (some ⟨B, 0, none⟩) rows.length rows.length) (sums rows ps L) := by
  have hsl : (sums rows ps L).length = rows.length := by simp [sums]
  refine ⟨_, 0, by rw [hsl, Nat.add_zero], .inr ⟨B, 0, rfl, h.row.lt, fun k hk => ?_⟩⟩
  rw [hsl] at hk
  refine ⟨_, by rw [Nat.zero_add]; exact h.row.cell_some (rowsV_at hk), ?_⟩
  have e : (sums rows ps L)[k]'(by omega) = rowF L (g k) := by
    have hs : (sumTo rows[k] ps L ps.length).length = L := Gf.sumTo_length _ ps L hl _ (Nat.le_refl _)
    have e0 : rows.getD k [] = rows[k] := by simp [hk]
    simp only [sums, List.getElem_map]
    apply List.ext_getElem
    · simp [hs]
    · intro q h1 h2
      rw [rowF_at, hg k hk q (by omega), e0]
      simp [h1]
  rw [e]
  exact OwnAt.bsC ⟨B + 1 + k, by simp, h.each k hk⟩
/-- The slots of the pieces' parts: the first j are filled. -/
def fillF (ps : List (List Nat)) (st len j : Nat) : Nat → Nat := fun i => if i < 8 * j then slotOf (((ps.getD (i / 8) []).drop st).take len) (i % 8) else 0
theorem fillF_zero (ps : List (List Nat)) (st len : Nat) : fillF ps st len 0 = fun _ => 0 := by funext i; simp [fillF]
theorem fillF_next (ps : List (List Nat)) (st len j : Nat) : filled (fillF ps st len j) (8 * j) (((ps.getD j []).drop st).take len) = fillF ps st len (j + 1) := by
  funext i
  unfold filled fillF
  by_cases h : 8 * j ≤ i ∧ i < 8 * j + 8
  · rw [if_pos h, if_pos (by omega), show i / 8 = j by omega, show i - 8 * j = i % 8 by omega]
  · rw [if_neg h]
    by_cases h2 : i < 8 * j
    · rw [if_pos h2, if_pos (by omega)]
    · rw [if_neg h2, if_neg (by omega)]
theorem fillF_lt (ps : List (List Nat)) (st len j : Nat) : ∀ i, fillF ps st len j i < 18446744073709551616 := by
  intro i; unfold fillF; split
  · exact slotOf_lt _ _
  · omega
theorem fillF_bit (ps : List (List Nat)) (st len : Nat) (hlen : len ≤ 64) (k : Nat) (hk : k < len) (j : Nat) (hj : j < ps.length) (b : Nat) (hb : b < 8) : (fillF ps st len ps.length (8 * j + b)).testBit k = ((ps.getD j []).getD (st + k) 0).testBit b := by
  unfold fillF
  rw [if_pos (by omega), show (8 * j + b) / 8 = j by omega, show (8 * j + b) % 8 = b by omega, slotOf, Gf.bitsOf_testBit]
  have e : (((ps.getD j []).drop st).take len).getD k 0 = (ps.getD j []).getD (st + k) 0 := by
    generalize ps.getD j [] = p
    rw [List.getD_eq_getElem?_getD, List.getElem?_take_of_lt hk, List.getElem?_drop, ← List.getD_eq_getElem?_getD]
  rw [e]; simp [show k < 64 by omega]
/-- What the sums hold behind st places. -/
def sumF (rows ps : List (List Nat)) (L st : Nat) : Nat → Nat → Nat := fun i q => if q < st then (sumTo (rows.getD i []) ps L ps.length).getD q 0 else 0
theorem BsC.cut {w : World} {v : Value} {l : List Nat} (h : BsC w v l) (st en : Nat) (h1 : st < en) (h2 : en ≤ l.length) : ∃ b off ex, v = .slice (some ⟨b, off, none⟩) l.length (l.length + ex) ∧ b < w.heap.size ∧ BsAt w (.slice (some ⟨b, off + st, none⟩) (en - st) (l.length + ex - st)) ((l.drop st).take (en - st)) := by
  obtain ⟨ao, ex, rfl, hx⟩ := h
  rcases hx with rfl | ⟨b, off, rfl, hlt, hc⟩
  · simp at h2; omega
  · refine ⟨b, off, ex, rfl, hlt, some ⟨b, off + st, none⟩, l.length + ex - st, ?_, .inr ⟨b, off + st, rfl, hlt, fun k hk => ?_⟩⟩
    · rw [List.length_take, List.length_drop, Nat.min_eq_left (by omega)]
    · rw [List.length_take, List.length_drop] at hk
      rw [Nat.add_assoc, hc (st + k) (by omega)]
      simp
/-- What the sums hold while the places from st to en are written: the first i have them. -/
def sumG (rows ps : List (List Nat)) (L st en i : Nat) : Nat → Nat → Nat := fun k => if k < i then sumF rows ps L en k else sumF rows ps L st k
theorem sumG_zero (rows ps : List (List Nat)) (L st en : Nat) : sumG rows ps L st en 0 = sumF rows ps L st := by funext k; simp [sumG]
/-- The words that the plan leaves. -/
def ran (rows ps : List (List Nat)) (st len : Nat) : Nat → Nat := runOn (fillF ps st len ps.length) (stepsTo rows ps.length rows.length)
theorem ran_lt (rows ps : List (List Nat)) (st len : Nat) : ∀ i, ran rows ps st len i < 18446744073709551616 := runOn_lt _ _ (fillF_lt _ _ _ _)
theorem sumG_next (rows ps : List (List Nat)) (L st en len i : Nat) (hfit : Fit rows ps L) (h1 : st < en) (h3 : en ≤ st + 64) (hlen : len = en - st) (hi : i < rows.length) :
    ∀ k, k < rows.length → ∀ q, q < L → (if k = i then readTo (sumF rows ps L st i) (ran rows ps st len) (8 * (ps.length + i)) st (en - st) else sumG rows ps L st en i k) q = sumG rows ps L st en (i + 1) k q := by
  intro k hk q hq
  by_cases e : k = i
  · subst e
    have eg : sumG rows ps L st en (k + 1) k q = sumF rows ps L en k q := by unfold sumG; rw [if_pos (by omega)]
    rw [if_pos rfl, eg]
    by_cases hq1 : q < st
    · have e1 : readTo (sumF rows ps L st k) (ran rows ps st len) (8 * (ps.length + k)) st (en - st) q = sumF rows ps L st k q := by unfold readTo; rw [if_neg (by omega)]
      rw [e1]; unfold sumF; rw [if_pos hq1, if_pos (by omega)]
    · by_cases hq2 : q < en
      · have e0 : rows.getD k [] = rows[k] := by simp [hk]
        have e1 : readTo (sumF rows ps L st k) (ran rows ps st len) (8 * (ps.length + k)) st (en - st) q = byteOf (ran rows ps st len) (8 * (ps.length + k)) (q - st) := by unfold readTo; rw [if_pos (by omega)]
        have e2 : sumF rows ps L en k q = (sumTo (rows.getD k []) ps L ps.length).getD q 0 := by unfold sumF; rw [if_pos hq2]
        have := byte_sum (fillF ps st len ps.length) rows ps L (q - st) (st + (q - st)) k hk (by rw [e0]; exact hfit.rbytes k hk) hfit.len hfit.pbytes (fun j hj => by unfold fillF; rw [if_neg (by omega)]) (fun j hj b hb => fillF_bit ps st len (by omega) (q - st) (by omega) j hj b hb)
        rw [show st + (q - st) = q by omega] at this
        rw [e1, e2]; exact this
      · have e1 : readTo (sumF rows ps L st k) (ran rows ps st len) (8 * (ps.length + k)) st (en - st) q = sumF rows ps L st k q := by unfold readTo; rw [if_neg (by omega)]
        rw [e1]; unfold sumF; rw [if_neg hq1, if_neg hq2]
  · rw [if_neg e]
    unfold sumG
    by_cases h : k < i
    · rw [if_pos h, if_pos (by omega)]
    · rw [if_neg h, if_neg (by omega)]
theorem sumG_all (rows ps : List (List Nat)) (L st en : Nat) (h3 : en ≤ st + 64) (h4 : en = L ∨ en = st + 64) : ∀ k, k < rows.length → ∀ q, q < L → sumG rows ps L st en rows.length k q = sumF rows ps L (st + 64) k q := by
  intro k hk q hq
  unfold sumG
  rw [if_pos hk]
  unfold sumF
  rcases h4 with h4 | h4
  · by_cases h : q < st + 64
    · rw [if_pos (by omega), if_pos h]
    · omega
  · rw [h4]
end Go.Proofs.YtlnpppdffhibjaaDoor.Plans
