import Derived.Test.YtmlnejlhgbonpaaDoorTables
import Derived.Test.YtmlnejlhgbonpaaDoorMemC
namespace Go.Proofs.YtmlnejlhgbonpaaDoor.ByTab
open Go.RowKit Mem FieldWalks Tab
open Gf (Bytes sumTo addTo)

theorem infoSlice : (Tryd.prog.info? 71).map (fun i => (i.zero, i.size, i.bytes)) = some (some (.slice none 0 0), 1, 24) := by kernel_rfl
theorem make_rows (n : Nat) (hn : n ≤ 100000) (w : World) :
    (Instr.makeSlice 98 (.int .i64 (n : Int)) (.int .i64 (n : Int))).run Tryd.prog w = .ok (.slice (some ⟨w.heap.size, 0, none⟩) n n) (w.alloc (.cells (madeCells #[.slice none 0 0] n) 71)) :=
  run_make_row' 98 71 (.slice none 0 0) 24 Tryd.underlying98 infoSlice rfl .i64 .i64 n (by omega) (by omega) w
theorem made_rows (w : World) (n : Nat) (f : Nat → List Nat) : Filled (w.alloc (.cells (madeCells #[.slice none 0 0] n) 71)) w.heap.size n 0 f := by
  refine Filled.zero ((Blk.new w _ _).eq (toList_madeCells_one _ n)) (by simp) f

/-- What is asked of the rows of factors and of the pieces. -/
structure Fit (rows ps : List (List Nat)) (L : Nat) : Prop where
  some : 0 < ps.length
  few : ps.length ≤ 100
  less : rows.length ≤ 100
  len : ∀ j, (h : j < ps.length) → ps[j].length = L
  wide : ∀ i, (h : i < rows.length) → rows[i].length = ps.length
  rbytes : ∀ i, (h : i < rows.length) → Bytes rows[i]
  pbytes : ∀ j, (h : j < ps.length) → Bytes ps[j]
  short : L ≤ 1000
/-- The sums: of each row of factors. -/
def sums (rows ps : List (List Nat)) (L : Nat) : List (List Nat) := rows.map fun r => sumTo r ps L ps.length

set_option maxRecDepth 100000 in
set_option maxHeartbeats 1000000 in
theorem sumsByTables_any (rows ps : List (List Nat)) (L : Nat) (rv pv : Value) (w : World) (ht : Table w) (hr : RowsAt w rv rows) (hp : RowsAt w pv ps) (hfit : Fit rows ps L) :
    Calls Tryd.prog 106 #[rv, pv] w fun e w' => ∃ v, e = .returned v ∧ RowsC w' v (sums rows ps L) ∧ Below w.heap.size w w' := by
  have hr0 := hr
  obtain ⟨rao, rcap, rfl, hrc⟩ := hr
  have hmk := fun w => make_rows rows.length (by have := hfit.less; omega) w
  have hless := hfit.less
  have HRC : Hid (rows = [] ∨ ∃ b off, rao = some ⟨b, off, none⟩ ∧ b < w.heap.size ∧ ∀ k, (h : k < rows.length) → ∃ u, w.cell? ⟨b, off + k, none⟩ = some u ∧ BsAt w u rows[k]) := hrc
  clear hrc
  go_enter Tryd.func106, Tryd.ntmps106
  go_wp2
  go_loopw [13] (fun i wr => ∃ k : Nat, k ≤ rows.length ∧ i = .int .i64 k ∧ Filled wr w.heap.size rows.length k (fun k => sumTo (rows.getD k []) ps L ps.length) ∧ Below w.heap.size w wr) (fun i _ => rows.length - (intOf i).toNat)
  case atStart => exact ⟨0, Nat.zero_le _, rfl, made_rows w _ _, (Below.refl _ _).alloc (Nat.le_refl _) _⟩
  case round =>
    obtain ⟨k, hk, rfl, hfl, hbel⟩ := hrel
    by_cases hlt : k < rows.length
    · obtain ⟨b, off, rfl, hb, hc⟩ : ∃ b off, rao = some ⟨b, off, none⟩ ∧ b < w.heap.size ∧ ∀ k, (h : k < rows.length) → ∃ u, w.cell? ⟨b, off + k, none⟩ = some u ∧ BsAt w u rows[k] := by
        rcases HRC.out with h | h
        · rw [h] at hlt; simp at hlt
        · exact h
      obtain ⟨u, hu, hbs⟩ := hc k hlt
      rw [← hbel.cell (p := ⟨b, off + k, none⟩) hb] at hu
      have hbs1 := hbs.to hbel
      have hp1 := hp.to hbel
      have hn : hfit.len = hfit.len := rfl
      have e1 : rows.getD k [] = rows[k] := by simp [hlt]
      have E1 : Hid (rows.getD k [] = rows[k]) := e1
      clear hc hbs e1 hn
      go_wp2_with fail
      refine (sumByTables_any rows[k] ps L _ _ _ (table_to ht hbel) hbs1 hp1 hfit.some hfit.few hfit.len (Nat.le_of_eq (hfit.wide k hlt).symm) (hfit.rbytes k hlt) hfit.pbytes hfit.short).mono ?_
      rintro e w2 ⟨c, hc, rfl, hblk, hw2⟩
      have hfl2 := hfl.to hw2
      obtain ⟨⟨v0, hv0⟩, hfr⟩ := hfl2.cell hlt
      have HF : Hid _ := hfl2
      have HB : Hid _ := hblk
      clear hfl hfl2 hblk
      go_wp2
      go_roundw
      case rel =>
        refine ⟨k + 1, by omega, by go_num, ?_, ?_⟩
        · have ho : OwnAt w2 (.slice (some ⟨c, 0, none⟩) L L) (sumTo (rows.getD k []) ps L ps.length) := by
            rw [E1.out]
            exact ⟨c, by rw [Gf.sumTo_length _ _ _ hfit.len _ (Nat.le_refl _)], HB.out⟩
          exact Filled.step HF.out hlt ho
        · exact (hbel.trans (hw2.mono hbel.size)).setCell (Nat.le_refl _) _
      case measure => simp [intOf]; omega
    · obtain rfl : k = rows.length := by omega
      go_wp2
      go_ret
      refine ⟨_, rfl, hfl.rowsC (by simp [sums]) (fun k hk => ?_), hbel⟩
      simp only [sums, List.length_map] at hk
      simp [sums, hk]
end Go.Proofs.YtmlnejlhgbonpaaDoor.ByTab
