import Derived.Test.YtokmllopbfmadaaDoorGNPiece2
import Derived.Test.YtokmllopbfmadaaDoorGParts
import Derived.Test.YtokmllopbfmadaaDoorGRefAll
namespace Go.Proofs.YtokmllopbfmadaaDoor.Plans
open Go.RowKit Mem FieldWalks Tab Planes Parts Ref

theorem own_base3 {w : World} {base base' n : Nat} {v : Value} {xs : List Value} (h : w.ownsRow base 73 3 v n xs) (hb : base' ≤ base) : w.ownsRow base' 73 3 v n xs := by
  obtain ⟨h1, h2⟩ := h
  refine ⟨h1, ?_⟩
  rcases h2 with h2 | ⟨g, cap, cur, rfl, hg, r⟩
  · exact .inl h2
  · exact .inr ⟨g, cap, cur, rfl, by omega, r⟩
theorem facs_wide (d s : Nat) : ∀ i, (h : i < (facs d s).length) → (facs d s)[i].length = d := fun i h => by simp [facs, facRow]
theorem facs_byte (d s : Nat) (hds : d + s < 256) : ∀ i, (h : i < (facs d s).length) → Gf.Bytes (facs d s)[i] := fun i h => by
  simp only [facs, List.length_map, List.length_range] at h
  simp only [facs, List.getElem_map, List.getElem_range]
  exact facRow_bytes _ _ (by omega)
set_option maxRecDepth 100000 in
set_option maxHeartbeats 1000000 in
theorem plan_any (d s : Nat) (w : World) (ht : Table w) (hd : 1 ≤ d) (hd2 : d ≤ 10) (hs : s ≤ 6) :
    Calls Tryd.prog 36 #[.int .i64 d, .int .i64 s] w fun e w' => ∃ v, e = .returned (.tuple #[v, .int .i64 0]) ∧ w'.ownsRow w.heap.size 73 3 v (planTo (facs d s) d d).length (stepCells (planTo (facs d s) d d)) ∧ Ends (facs d s) d ∧ Below w.heap.size w w' := by
  have HC : Hid (Calls Tryd.prog 53 #[.int .i64 d, .int .i64 s] w fun e w' => e = .returned (.bool true) ∧ w' = w) := by
    have := areCounts_any (d : Int) (s : Int) w
    have e : okCounts (d : Int) (s : Int) = true := by unfold okCounts; simp; omega
    rw [e] at this; exact this
  go_enter Tryd.func36, Tryd.ntmps36
  go_wp2_with fail
  refine HC.out.mono ?_
  rintro e w1 ⟨rfl, hw1⟩
  obtain rfl : w = w1 := hw1.symm
  go_wp2_with fail
  refine (factors_any d s (by omega) (by omega) _ ht).mono ?_
  rintro e w1 ⟨fv, rfl, hf, hb1⟩
  have HST : Hid (Calls Tryd.prog 70 #[fv, .int .i64 d] w1 fun e w' => ∃ v, e = .returned v ∧ w'.ownsRow w1.heap.size 73 3 v (planTo (facs d s) d d).length (stepCells (planTo (facs d s) d d)) ∧ Ends (facs d s) d ∧ Below w1.heap.size w1 w') :=
    steps_any (facs d s) d fv w1 (table_to ht hb1) hf (facs_wide d s) (facs_byte d s (by omega)) (by omega) (by simp [facs]; omega)
  have HB1 : Hid (Below w.heap.size w w1) := hb1
  obtain ⟨fa, fc, rfl, _⟩ := hf
  clear hb1
  go_wp2_with fail
  refine HST.out.mono ?_
  rintro e w2 ⟨v, rfl, ho, hen, hb2⟩
  have HO : Hid (w2.ownsRow w.heap.size 73 3 v (planTo (facs d s) d d).length (stepCells (planTo (facs d s) d d))) := own_base3 ho HB1.out.size
  have HEN : Hid (Ends (facs d s) d) := hen
  have HB2 : Hid (Below w.heap.size w w2) := HB1.out.trans (hb2.mono HB1.out.size)
  obtain ⟨va, vc, rfl⟩ := owns_form ho
  clear ho hen hb2 HST
  go_wp2
  go_ret2
  exact ⟨_, rfl, HO.out, HEN.out, HB2.out⟩
set_option maxRecDepth 100000 in
theorem plan_no (d s : Int) (w : World) (h : okCounts d s = false) :
    Calls Tryd.prog 36 #[.int .i64 d, .int .i64 s] w fun e w' => e = .returned (.tuple #[.slice none 0 0, .int .i64 3]) ∧ w' = w := by
  have HC : Hid (Calls Tryd.prog 53 #[.int .i64 d, .int .i64 s] w fun e w' => e = .returned (.bool false) ∧ w' = w) := by
    have := areCounts_any d s w
    rw [h] at this; exact this
  clear h
  go_enter Tryd.func36, Tryd.ntmps36
  go_wp2_with fail
  refine HC.out.mono ?_
  rintro e w1 ⟨rfl, hw1⟩
  obtain rfl : w = w1 := hw1.symm
  go_wp2
  go_ret2
  exact ⟨rfl, rfl⟩
end Go.Proofs.YtokmllopbfmadaaDoor.Plans
