/- Sums of pieces times factors, in plain lists. -/
import Derived.Test.YtmlnejlhgbonpaaDoorGf
namespace Go.Proofs.YtmlnejlhgbonpaaDoor.Gf

def addTo (f : Nat) (acc p : List Nat) : List Nat := List.zipWith (fun a x => a ^^^ times f x) acc p
/-- The sum of the first j pieces, each times its factor. -/
def sumTo (row : List Nat) (ps : List (List Nat)) (L : Nat) : Nat → List Nat
  | 0 => List.replicate L 0
  | j + 1 => addTo (row.getD j 0) (sumTo row ps L j) (ps.getD j [])
def Bytes (l : List Nat) : Prop := ∀ x, x ∈ l → x < 256
theorem Bytes.at {l : List Nat} (h : Bytes l) (k : Nat) (hk : k < l.length) : l[k] < 256 := h _ (List.getElem_mem hk)
theorem Bytes.getD {l : List Nat} (h : Bytes l) (k : Nat) : l.getD k 0 < 256 := by
  by_cases hk : k < l.length
  · simp [hk]; exact h.at k hk
  · simp [List.getElem?_eq_none (Nat.le_of_not_lt hk)]
theorem addTo_length {f : Nat} {acc p : List Nat} (h : p.length = acc.length) : (addTo f acc p).length = acc.length := by simp [addTo, h]
theorem addTo_bytes {f : Nat} {acc p : List Nat} (hf : f < 256) (ha : Bytes acc) : Bytes (addTo f acc p) := by
  intro x hx
  simp only [addTo, List.mem_iff_getElem, List.getElem_zipWith, List.length_zipWith] at hx
  obtain ⟨k, hk, rfl⟩ := hx
  exact xor_lt (ha.at k (by omega)) (times_lt _ _ hf)
theorem sumTo_length (row : List Nat) (ps : List (List Nat)) (L : Nat) (hl : ∀ j, (h : j < ps.length) → ps[j].length = L) : ∀ j, j ≤ ps.length → (sumTo row ps L j).length = L
  | 0, _ => by simp [sumTo]
  | j + 1, h => by
    have ih := sumTo_length row ps L hl j (by omega)
    have hj : (ps.getD j []).length = L := by simp [show j < ps.length by omega, hl j (by omega)]
    rw [sumTo, addTo_length (by omega), ih]
theorem sumTo_bytes (row : List Nat) (ps : List (List Nat)) (L : Nat) (hr : Bytes row) : ∀ j, Bytes (sumTo row ps L j)
  | 0 => by intro x hx; simp [sumTo] at hx; omega
  | j + 1 => addTo_bytes (hr.getD j) (sumTo_bytes row ps L hr j)
theorem sumTo_next (row : List Nat) (ps : List (List Nat)) (L j k : Nat) (hj : j < ps.length) (hjr : j < row.length) (hk : k < ps[j].length) (h1 : k < (sumTo row ps L j).length) (h2 : k < (sumTo row ps L (j + 1)).length) :
    (sumTo row ps L (j + 1))[k] = (sumTo row ps L j)[k] ^^^ times row[j] ps[j][k] := by
  simp only [sumTo, addTo, List.getElem_zipWith]
  have e1 : row.getD j 0 = row[j] := by simp [hjr]
  have e2 : ps.getD j [] = ps[j] := by simp [hj]
  simp only [e1, e2]
end Go.Proofs.YtmlnejlhgbonpaaDoor.Gf
