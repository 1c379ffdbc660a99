import Derived.Test.YtokmllopbfmadabDoorGNReplace2
namespace Go.Proofs.YtokmllopbfmadabDoor.Plans
open Go.RowKit Mem FieldWalks Tab Planes

theorem plan_few_to {rows : List (List Nat)} {n : Nat} : ∀ j, j ≤ n → (∀ i, i < j → IsEnd (needs rows i) (8 * (n + rows.length)) (endOf (needs rows i) (8 * (n + rows.length)))) → (planTo rows n j).length ≤ needsTo rows j
  | 0, _, _ => Nat.le_refl _
  | j + 1, hj, e => by
    have := plan_few_to j (by omega) (fun i hi => e i (by omega))
    have := piece_few (n := n) (j := j) (by omega) (e j (by omega))
    rw [planTo, List.length_append, needsTo]; omega
theorem infoFlag : (Tryd.prog.info? 4).map (fun i => (i.zero, i.size, i.bytes)) = some (some (.bool false), 1, 1) := by kernel_rfl
theorem make_flags (n : Nat) (hn : n ≤ 100000) (w : World) :
    (Instr.makeSlice 131 (.int .i64 (n : Int)) (.int .i64 (n : Int))).run Tryd.prog w = .ok (.slice (some ⟨w.heap.size, 0, none⟩) n n) (w.alloc (.cells (madeCells #[.bool false] n) 4)) :=
  run_make_row' 131 4 (.bool false) 1 Tryd.underlying131 infoFlag rfl .i64 .i64 n (by omega) (by omega) w
theorem needs_short (rows : List (List Nat)) (j : Nat) : ∀ l, l ∈ needs rows j → l.length ≤ 8 := by
  intro l hl
  simp only [needs, List.mem_map] at hl
  obtain ⟨k, _, rfl⟩ := hl
  exact turnIn_le _ _ _ _

set_option maxRecDepth 100000 in
set_option maxHeartbeats 2000000 in
theorem steps_any (rows : List (List Nat)) (n : Nat) (rv : Value) (w : World) (ht : Table w) (hr : RowsAt w rv rows) (hlen : ∀ i, (h : i < rows.length) → rows[i].length = n) (hb : ∀ i, (h : i < rows.length) → Gf.Bytes rows[i]) (hn : n ≤ 100) (hm : rows.length ≤ 6) :
    Calls Tryd.prog 69 #[rv, .int .i64 n] w fun e w' => ∃ v, e = .returned v ∧ w'.ownsRow w.heap.size 141 3 v (planTo rows n n).length (stepCells (planTo rows n n)) ∧ Ends rows n ∧ Below w.heap.size w w' := by
  have HR : Hid (RowsAt w rv rows) := hr
  obtain ⟨rao, rcap, rfl, hrc⟩ := hr
  obtain ⟨m8, hm8⟩ : ∃ m8, m8 = 8 * rows.length := ⟨_, rfl⟩
  obtain ⟨fs, hfs⟩ : ∃ fs, fs = 8 * n := ⟨_, rfl⟩
  obtain ⟨fh, hfh⟩ : ∃ fh, fh = 8 * (n + rows.length) := ⟨_, rfl⟩
  have e8 : 8 * (rows.length : Int) = (m8 : Int) := by omega
  have e9 : 8 * (n : Int) = (fs : Int) := by omega
  have e10 : 8 * ((n : Int) + (rows.length : Int)) = (fh : Int) := by omega
  have hmk := fun w => make_flags m8 (by omega) w
  have HM8 : Hid (m8 = 8 * rows.length) := hm8
  have HFS : Hid (fs = 8 * n) := hfs
  have HFH : Hid (fh = 8 * (n + rows.length)) := hfh
  have HNO : Hid (∀ (j : Nat) (W : World), j < n → Below w.heap.size w W → Calls Tryd.prog 82 #[.slice rao rows.length rcap, .int .i64 j] W fun e w' => ∃ B M, e = .returned (.agg (needsV B M m8).toArray) ∧ NSt w' B M W.heap.size (64 * m8) (needs rows j) ∧ W.heap.size ≤ B ∧ W.heap.size ≤ M ∧ Below W.heap.size W w') := by
    intro j W hj hW
    rw [hm8]
    exact needsOf_any rows n j _ W (table_to ht hW) (HR.out.to hW) hlen hb hn (by omega) hj
  have hf8 : fs ≤ 800 := by omega
  have hm48 : m8 ≤ 48 := by omega
  have hfh8 : fh ≤ 848 := by omega
  clear hrc hlen hb hm8 hfs hfh
  go_enter Tryd.func69, Tryd.ntmps69
  go_wp2
  go_loopw [20] (fun jv wr => ∃ (j : Nat) (sv' : Value), j ≤ n ∧ jv = .int .i64 j ∧ PSt wr (w.heap.size + 1) w.heap.size w.heap.size m8 fs fh (planTo rows n j) (begunTo rows j) sv' ∧ (∀ i, i < j → IsEnd (needs rows i) (8 * (n + rows.length)) (endOf (needs rows i) (8 * (n + rows.length)))) ∧ Below w.heap.size w wr) (fun jv _ => n - (intOf jv).toNat)
  case atStart =>
    refine ⟨0, .slice none 0 0, Nat.zero_le _, rfl, ⟨?_, World.ownsRow_nil _ _ _ _, ?_⟩, fun i hi => by omega, ((Below.refl _ _).alloc (Nat.le_refl _) _).alloc (by simp) _⟩
    · exact Blk.new1 w _ _ _
    · refine ((Blk.new w _ _).alloc _).eq ?_
      rw [toList_madeCells_one]
      simp [flagsV, begunTo, List.map_const']
  case round =>
    obtain ⟨j, sv1, hj, rfl, hp, hends, hbel⟩ := hrel
    by_cases hlt : j < n
    · have hno := HNO.out j wr hlt hbel
      have HP : Hid (PSt wr (w.heap.size + 1) w.heap.size w.heap.size m8 fs fh (planTo rows n j) (begunTo rows j) sv1) := hp
      have HEN : Hid (∀ i, i < j → IsEnd (needs rows i) (8 * (n + rows.length)) (endOf (needs rows i) (8 * (n + rows.length)))) := hends
      have HBEL : Hid (Below w.heap.size w wr) := hbel
      have hsz := hbel.size
      clear hp hends hbel
      go_wp2_with fail
      refine hno.mono ?_
      rintro e w1 ⟨B, M, rfl, hns, hB, hM, hw1⟩
      have hpl : (planTo rows n j).length ≤ 100000 := by
        have h1 := plan_few_to (n := n) j hj HEN.out
        have h2 := needsTo_le rows j
        have h3 : 64 * rows.length * j ≤ 64 * 6 * 100 := Nat.mul_le_mul (Nat.mul_le_mul_left _ hm) (by omega)
        omega
      have hlf : LFit (needs rows j) (8 * j) fh m8 := ⟨needs_ok rows j fh, by have := HFH.out; omega, by rw [needs_length]; exact HM8.out.symm, needs_short rows j, by have := needs_total rows j; omega, hm48, by omega⟩
      have had := addPiece_any (w.heap.size + 1) w.heap.size w.heap.size m8 fs fh B M wr.heap.size (8 * j) (planTo rows n j) (begunTo rows j) sv1 (needs rows j) w1 (HP.out.to hw1) hns hlf (by omega) (Nat.le_refl _) hsz hB hM hw1.size (by omega) hpl
      have HB1 : Hid (Below w.heap.size w w1) := HBEL.out.trans (hw1.mono hsz)
      clear hns hlf hno hw1 hpl
      go_wp2_with fail
      refine had.mono ?_
      rintro e w2 ⟨rfl, ⟨K, sv2, hK, hp2⟩, hb2⟩
      have HE2 : Hid (∀ i, i < j + 1 → IsEnd (needs rows i) (8 * (n + rows.length)) (endOf (needs rows i) (8 * (n + rows.length)))) := by
        intro i hi
        by_cases e : i = j
        · subst e
          rw [HFH.out] at hK
          rw [endOf_eq hK]; exact hK
        · exact HEN.out i (by omega)
      have HP2 : Hid (PSt w2 (w.heap.size + 1) w.heap.size w.heap.size m8 fs fh (planTo rows n (j + 1)) (begunTo rows (j + 1)) sv2) := by
        have e1 : planTo rows n (j + 1) = planTo rows n j ++ (helpTo (needs rows j) fh K ++ addTo' fs (listsTo (needs rows j) fh K) (begunTo rows j) m8) := by
          have hK' := hK
          rw [HFH.out] at hK'
          rw [planTo, pieceSteps, endOf_eq hK', HFH.out, HFS.out, HM8.out]
        show PSt _ _ _ _ _ _ _ _ _ _
        rw [e1]; exact hp2
      have HB2 : Hid (Below w.heap.size w w2) := HB1.out.trans hb2
      clear hK hp2 hb2 had
      go_wp2
      go_roundw
      case rel => exact ⟨j + 1, sv2, by omega, by go_num, HP2.out, HE2.out, HB2.out⟩
      case measure => simp [intOf]; omega
    · obtain rfl : j = n := by omega
      have p0 := hp.blk.cell_some (k := 0) (v := sv1) rfl
      have HO : Hid (wr.ownsRow w.heap.size 141 3 sv1 (planTo rows j j).length (stepCells (planTo rows j j))) := hp.own
      obtain ⟨sa, sc, rfl⟩ := owns_form hp.own
      have HEN : Hid (Ends rows j) := hends
      clear hp hends
      go_wp2
      go_ret
      exact ⟨_, rfl, HO.out, HEN.out, hbel⟩
end Go.Proofs.YtokmllopbfmadabDoor.Plans
