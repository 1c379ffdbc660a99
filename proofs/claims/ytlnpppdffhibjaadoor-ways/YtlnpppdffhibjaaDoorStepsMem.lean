import Derived.Test.YtlnpppdffhibjaaDoorTurners
import Derived.Deep.MidRow
namespace Go.Proofs.YtlnpppdffhibjaaDoor.Plans
open Go.RowKit Mem FieldWalks Tab ByTab Planes

/-- Many places of a row at once. -/
def putAll (f : Nat → Nat) (o : Nat) : List Nat → Nat → Nat
  | [] => f
  | x :: r => putAll (upd f o x) (o + 1) r
theorem putAll_eq (l : List Nat) : ∀ (f : Nat → Nat) (o i : Nat), putAll f o l i = if o ≤ i ∧ i < o + l.length then l.getD (i - o) 0 else f i := by
  induction l with
  | nil => intro f o i; simp [putAll]; omega
  | cons x r ih =>
    intro f o i
    rw [putAll, ih]
    by_cases e : i = o
    · subst e; rw [if_neg (by omega), if_pos (by simp)]; simp [upd]
    · by_cases h : o + 1 ≤ i ∧ i < o + 1 + r.length
      · rw [if_pos h, if_pos (by simp; omega), show i - o = (i - (o + 1)) + 1 by omega, List.getD_cons_succ]
      · rw [if_neg h, if_neg (by simp; omega)]; simp [upd, e]
theorem blk_cells (l : List Nat) : ∀ (f : Nat → Nat) (o m b : Nat) (t : TypeId) (w : World), Blk w b t (bytesV (rowF m f)) → Blk (w.setCells b o (bytesV l)) b t (bytesV (rowF m (putAll f o l))) := by
  induction l with
  | nil => intro f o m b t w h; exact h
  | cons x r ih =>
    intro f o m b t w h
    have h1 := (h.set o (.int .u8 (x : Nat))).eq (by rw [bytesV_set, rowF_set])
    exact ih _ _ _ _ _ _ h1
theorem but_cells (vs : List Value) : ∀ (o b : Nat) (w0 w : World), But b w0 w → But b w0 (w.setCells b o vs) := by
  induction vs with
  | nil => intro o b w0 w h; exact h
  | cons v r ih => intro o b w0 w h; exact ih _ _ _ _ (h.setCell o v)
/-- The columns of the first j factors. -/
def colsTo (row : List Nat) (n j : Nat) : List Nat := rowF (8 * n) fun i => if i / 8 < j then Gf.times (row.getD (i / 8) 0) (2 ^ (i % 8)) else 0
theorem colsTo_all (row : List Nat) (n : Nat) : colsTo row n n = colsRow row n := rowF_congr fun i hi => by rw [if_pos (by omega)]
theorem colsTo_next {w : World} {C n j : Nat} {row : List Nat} (h : Blk w C 143 (bytesV (colsTo row n j))) : Blk (w.setCells C (j * 8) (bytesV (colsOf (row.getD j 0)))) C 143 (bytesV (colsTo row n (j + 1))) := by
  refine (blk_cells (colsOf (row.getD j 0)) _ (j * 8) _ _ _ _ h).eq ?_
  congr 1
  refine rowF_congr fun i hi => ?_
  rw [putAll_eq, show (colsOf (row.getD j 0)).length = 8 by simp [colsOf]]
  by_cases e : j * 8 ≤ i ∧ i < j * 8 + 8
  · rw [if_pos e, if_pos (by omega), show i / 8 = j by omega, show i - j * 8 = i % 8 by omega]
    have : i % 8 < 8 := by omega
    generalize i % 8 = r at this
    simp [colsOf, this]
  · rw [if_neg e]
    by_cases h2 : i / 8 < j
    · rw [if_pos h2, if_pos (by omega)]
    · rw [if_neg h2, if_neg (by omega)]
theorem there_colsTo {w : World} {C n j : Nat} {row : List Nat} (h : Blk w C 143 (bytesV (colsTo row n j))) (hj : j < n) : w.there C (j * 8) 8 := fun r hr => ⟨by rw [h.cell_some (bytesV_at (by simp [colsTo]; omega))]; rfl, h.free _⟩
theorem zeros8 (m : Nat) : (madeCells #[Value.int .u8 0, .int .u8 0, .int .u8 0, .int .u8 0, .int .u8 0, .int .u8 0, .int .u8 0, .int .u8 0] m).toList = List.replicate m (.int .u8 0) := by
  apply List.ext_getElem
  · simp [size_madeCells]
  · intro i h1 h2
    rw [List.getElem_replicate]
    simp only [madeCells, Array.getElem_toList, Array.getElem_map, Array.getElem_range]
    have : i % 8 < 8 := by omega
    show (#[Value.int .u8 0, .int .u8 0, .int .u8 0, .int .u8 0, .int .u8 0, .int .u8 0, .int .u8 0, .int .u8 0])[i % 8]! = .int .u8 0
    generalize i % 8 = r at this
    rcases (show r = 0 ∨ r = 1 ∨ r = 2 ∨ r = 3 ∨ r = 4 ∨ r = 5 ∨ r = 6 ∨ r = 7 by omega) with rfl | rfl | rfl | rfl | rfl | rfl | rfl | rfl <;> rfl
theorem make_cols (n : Nat) (hn : n ≤ 100000) (w : World) :
    (Instr.makeSlice 142 (.int .i64 (n : Int)) (.int .i64 (n : Int))).run Tryd.prog w = .ok (.slice (some ⟨w.heap.size, 0, none⟩) n n) (w.alloc (.cells (madeCells #[Value.int .u8 0, .int .u8 0, .int .u8 0, .int .u8 0, .int .u8 0, .int .u8 0, .int .u8 0, .int .u8 0] (n * 8)) 143)) := by
  obtain ⟨i, hi, hz0, hz1, hz2⟩ := info_parts infoCol8
  have := run_make (P := Tryd.prog) w 142 143 i _ Tryd.underlying142 hi hz0 .i64 .i64 n n (by omega) (by omega) (by rw [hz2]; omega) (by omega)
  rw [hz1, Int.toNat_natCast] at this
  exact this
theorem made_cols (w : World) (n : Nat) (row : List Nat) : Blk (w.alloc (.cells (madeCells #[Value.int .u8 0, .int .u8 0, .int .u8 0, .int .u8 0, .int .u8 0, .int .u8 0, .int .u8 0, .int .u8 0] (n * 8)) 143)) w.heap.size 143 (bytesV (colsTo row n 0)) := by
  refine (Blk.new w _ _).eq ?_
  rw [zeros8]
  have e : colsTo row n 0 = List.replicate (n * 8) 0 := by
    rw [show n * 8 = 8 * n by omega, ← rowF_zero]; exact rowF_congr fun i hi => by simp
  rw [e]; simp [bytesV]
/-- The slice v reads as these numbers. -/
def IntsAt (w : World) (v : Value) (l : List Nat) : Prop :=
  ∃ ao cap, v = .slice ao l.length cap ∧ (l = [] ∨ ∃ g us, ao = some ⟨g, 0, none⟩ ∧ Blk w g 3 us ∧ ∀ k, (h : k < l.length) → us[k]? = some (.int .i64 (l[k] : Nat)))
theorem IntsAt.of_owns {w : World} {base : Nat} {v : Value} {l : List Nat} (h : w.ownsRow base 3 1 v l.length (intsV l)) : IntsAt w v l := by
  obtain ⟨hl, h2⟩ := h
  rcases h2 with ⟨rfl, h0⟩ | ⟨g, cap, cur, rfl, hg, hh, _, _, _, ht⟩
  · exact ⟨none, 0, by rw [h0], .inl (List.eq_nil_of_length_eq_zero h0)⟩
  · refine ⟨_, cap, rfl, .inr ⟨g, cur.toList, rfl, by unfold Blk; rw [hh], fun k hk => ?_⟩⟩
    rw [Nat.mul_one] at ht
    have : (cur.toList.take l.length)[k]? = some (.int .i64 (l[k] : Nat)) := by rw [ht]; simp [intsV, hk]
    rw [List.getElem?_take_of_lt hk] at this
    exact this

/-- The steps that sum these slots into one. -/
def stepsIn (to : Nat) (ts : List Nat) (k : Nat) : List Stp := (List.range k).map fun n => ⟨to, ts.getD n 0, n == 0⟩
def stepsBit (row : List Nat) (n i : Nat) : Nat → List Stp
  | 0 => []
  | b + 1 => stepsBit row n i b ++ stepsIn (8 * (n + i) + b) (turnTo row b n) (turnTo row b n).length
def stepsTo (rows : List (List Nat)) (n : Nat) : Nat → List Stp
  | 0 => []
  | i + 1 => stepsTo rows n i ++ stepsBit (rows.getD i []) n i 8
theorem stepsIn_length (to : Nat) (ts : List Nat) (k : Nat) : (stepsIn to ts k).length = k := by simp [stepsIn]
theorem stepsIn_next (to : Nat) (ts : List Nat) (k : Nat) (hk : k < ts.length) : stepsIn to ts (k + 1) = stepsIn to ts k ++ [⟨to, ts[k], k == 0⟩] := by
  simp [stepsIn, List.range_succ, hk]
theorem stepsBit_le (row : List Nat) (n i b : Nat) : (stepsBit row n i b).length ≤ 8 * n * b := by
  induction b with
  | zero => simp [stepsBit]
  | succ b ih => unfold stepsBit; have := turnTo_le row b n; rw [List.length_append, stepsIn_length, Nat.mul_add, Nat.mul_one]; omega
theorem stepsTo_le (rows : List (List Nat)) (n i : Nat) : (stepsTo rows n i).length ≤ 8 * n * 8 * i := by
  induction i with
  | zero => simp [stepsTo]
  | succ i ih => unfold stepsTo; have := stepsBit_le (rows.getD i []) n i 8; rw [List.length_append, Nat.mul_add, Nat.mul_one]; omega
def stepCells (ss : List Stp) : List Value := ss.flatMap Stp.cells
theorem stepCells_add (a b : List Stp) : stepCells (a ++ b) = stepCells a ++ stepCells b := by simp [stepCells]
theorem flat_get (ss : List Stp) : ∀ (k r : Nat) (h : k < ss.length), r < 3 → (stepCells ss)[k * 3 + r]? = (ss[k].cells)[r]? := by
  induction ss with
  | nil => intro k r h; simp at h
  | cons e es ih =>
    intro k r h hr
    have hl : e.cells.length = 3 := rfl
    unfold stepCells at ih ⊢
    rw [List.flatMap_cons]
    cases k with
    | zero => rw [Nat.zero_mul, Nat.zero_add, List.getElem?_append_left (by omega)]; rfl
    | succ k =>
      rw [List.getElem?_append_right (by omega), show (k + 1) * 3 + r - e.cells.length = k * 3 + r by omega]
      exact ih k r (by simpa using h) hr
theorem StepsAt.of_owns {w : World} {base : Nat} {v : Value} {ss : List Stp} (h : w.ownsRow base 96 3 v ss.length (stepCells ss)) : StepsAt w v ss := by
  obtain ⟨hl, h2⟩ := h
  rcases h2 with ⟨rfl, h0⟩ | ⟨g, cap, cur, rfl, hg, hh, _, _, _, ht⟩
  · exact ⟨none, 0, by rw [h0], .inl (List.eq_nil_of_length_eq_zero h0)⟩
  · refine ⟨_, cap, rfl, .inr ⟨g, cur, rfl, hh, fun k hk r hr => ?_⟩⟩
    rw [← flat_get ss k r hk hr, ← ht, List.getElem?_take_of_lt (by omega)]
    simp
end Go.Proofs.YtlnpppdffhibjaaDoor.Plans
