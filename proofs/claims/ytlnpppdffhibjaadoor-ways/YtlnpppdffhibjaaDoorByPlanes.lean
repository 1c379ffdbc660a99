import Derived.Test.YtlnpppdffhibjaaDoorSumWords
namespace Go.Proofs.YtlnpppdffhibjaaDoor.Planes
open Go.RowKit Mem FieldWalks Tab ByTab
open Gf (Bytes sumTo addTo)

theorem infoWSlice : (Tryd.prog.info? 126).map (fun i => (i.zero, i.size, i.bytes)) = some (some (.slice none 0 0), 1, 24) := by kernel_rfl
theorem make_wrows (n : Nat) (hn : n ≤ 100000) (w : World) :
    (Instr.makeSlice 125 (.int .i64 (n : Int)) (.int .i64 (n : Int))).run Tryd.prog w = .ok (.slice (some ⟨w.heap.size, 0, none⟩) n n) (w.alloc (.cells (madeCells #[.slice none 0 0] n) 126)) :=
  run_make_row' 125 126 (.slice none 0 0) 24 Tryd.underlying125 infoWSlice rfl .i64 .i64 n (by omega) (by omega) w
theorem made_wrows (w : World) (n : Nat) (f : Nat → List Nat) : FilledW (w.alloc (.cells (madeCells #[.slice none 0 0] n) 126)) w.heap.size n 0 f :=
  FilledW.zero ((Blk.new w _ _).eq (toList_madeCells_one _ n)) (by simp) f

/-- The words of all pieces. -/
def wordRows (ps : List (List Nat)) (n : Nat) : List (List Nat) := ps.map fun p => wordsOf p n
theorem wordsOf_words (p : List Nat) (n : Nat) : Words (wordsOf p n) := by
  intro x hx
  simp only [wordsOf, List.mem_map] at hx
  obtain ⟨i, _, rfl⟩ := hx
  unfold wordAt Gf.planes
  exact Gf.bitsOf_lt 64 _
theorem wordsOf_zero (L n : Nat) : wordsOf (List.replicate L 0) n = List.replicate n 0 := by
  apply List.ext_getElem
  · simp [wordsOf]
  · intro i h1 h2
    simp only [wordsOf, List.getElem_map, List.getElem_range, List.getElem_replicate]
    unfold wordAt Gf.planes
    refine (Gf.eq_bitsOf (n := 64) (Nat.two_pow_pos 64) fun j _ => ?_).symm
    have : (List.replicate L 0).getD (8 * i + j % 8) 0 = 0 := by
      by_cases h : 8 * i + j % 8 < L
      · simp [h]
      · simp [List.getElem?_eq_none (show (List.replicate L 0).length ≤ 8 * i + j % 8 by simp; omega)]
    show Nat.testBit 0 j = ((List.replicate L 0).getD (8 * i + j % 8) 0).testBit (j / 8)
    rw [this]; simp
theorem addTo_getD (f : Nat) (hf : f < 256) (acc p : List Nat) (h : p.length = acc.length) (q : Nat) : (addTo f acc p).getD q 0 = acc.getD q 0 ^^^ Gf.times f (p.getD q 0) := by
  by_cases hq : q < acc.length
  · have h1 : q < (addTo f acc p).length := by rw [Gf.addTo_length h]; exact hq
    have e1 : (addTo f acc p).getD q 0 = (addTo f acc p)[q] := by simp [h1]
    have e2 : acc.getD q 0 = acc[q] := by simp [hq]
    have e3 : p.getD q 0 = p[q]'(by omega) := by simp [show q < p.length by omega]
    rw [e1, e2, e3]; simp [addTo]
  · have e1 : (addTo f acc p).getD q 0 = 0 := by simp [List.getElem?_eq_none (show (addTo f acc p).length ≤ q by rw [Gf.addTo_length h]; omega)]
    have e2 : acc.getD q 0 = 0 := by simp [List.getElem?_eq_none (show acc.length ≤ q by omega)]
    have e3 : p.getD q 0 = 0 := by simp [List.getElem?_eq_none (show p.length ≤ q by omega)]
    rw [e1, e2, e3, Gf.times_zero f hf]; rfl
theorem bytes_getD {p : List Nat} (h : Bytes p) (q : Nat) : p.getD q 0 < 256 := h.getD q
/-- ████ The sums of the words are the words of the sums. ████ -/
theorem wsumTo_words_of (row : List Nat) (ps : List (List Nat)) (L n : Nat) (hr : Bytes row) (hl : ∀ j, (h : j < ps.length) → ps[j].length = L) (hb : ∀ j, (h : j < ps.length) → Bytes ps[j]) :
    ∀ j, j ≤ ps.length → wsumTo row (wordRows ps n) n j = wordsOf (sumTo row ps L j) n
  | 0, _ => by rw [wsumTo, sumTo, wordsOf_zero]
  | j + 1, h => by
    have hj : j < ps.length := by omega
    have ih := wsumTo_words_of row ps L n hr hl hb j (by omega)
    have e1 : (wordRows ps n).getD j [] = wordsOf ps[j] n := by simp [wordRows, hj]
    have e2 : ps.getD j [] = ps[j] := by simp [hj]
    have hs : (sumTo row ps L j).length = L := Gf.sumTo_length row ps L hl j (by omega)
    rw [wsumTo, sumTo, ih, e1, e2, waddTo]
    apply List.ext_getElem
    · simp [wordsOf]
    · intro i h1 h2
      simp only [List.getElem_zipWith, wordsOf, List.getElem_map, List.getElem_range]
      have hf := hr.getD j
      generalize row.getD j 0 = f at hf ⊢
      have em := Gf.moved_planes f hf (fun q => ps[j].getD (8 * i + q) 0) (fun q => (hb j hj).getD _)
      show wordAt _ i ^^^ Gf.moved f (wordAt ps[j] i) 8 = _
      unfold wordAt
      rw [em, Gf.planes_xor]
      congr 1
      funext q
      rw [addTo_getD f hf _ _ (by rw [hl j hj, hs])]

theorem bytes_back (row : List Nat) (ps : List (List Nat)) (L n : Nat) (hr : Bytes row) (hl : ∀ j, (h : j < ps.length) → ps[j].length = L) (hb : ∀ j, (h : j < ps.length) → Bytes ps[j]) (hn : L ≤ 8 * n) :
    bytesOf (wsumTo row (wordRows ps n) n (wordRows ps n).length) L = sumTo row ps L ps.length := by
  have e : (wordRows ps n).length = ps.length := by simp [wordRows]
  have hs : (sumTo row ps L ps.length).length = L := Gf.sumTo_length row ps L hl _ (Nat.le_refl _)
  rw [e, wsumTo_words_of row ps L n hr hl hb _ (Nat.le_refl _)]
  have := bytesOf_words (sumTo row ps L ps.length) n (Gf.sumTo_bytes row ps L hr _) (by omega)
  rw [hs] at this
  exact this

set_option maxRecDepth 100000 in
set_option maxHeartbeats 2000000 in
theorem sumsByPlanes_any (rows ps : List (List Nat)) (L : Nat) (rv pv : Value) (w : World) (ht : Table w) (hr : RowsAt w rv rows) (hp : RowsAt w pv ps) (hfit : Fit rows ps L) :
    Calls Tryd.prog 85 #[rv, pv] w fun e w' => ∃ v, e = .returned v ∧ RowsC w' v (sums rows ps L) ∧ Below w.heap.size w w' := by
  obtain ⟨pb, poff, pcap, rfl, hplt, hpc⟩ := hp.pos hfit.some
  obtain ⟨rao, rcap, rfl, hrc⟩ := hr
  obtain ⟨n, hn⟩ : ∃ n, n = (L + 7) / 8 := ⟨_, rfl⟩
  have hmk := fun w => make_wrows ps.length (by have := hfit.few; omega) w
  have hmr := fun w => make_rows rows.length (by have := hfit.less; omega) w
  have hfew := hfit.few
  have hless := hfit.less
  have HN : Hid (n = (L + 7) / 8) := hn
  have HPC : Hid (∀ k, (h : k < ps.length) → ∃ u, w.cell? ⟨pb, poff + k, none⟩ = some u ∧ BsAt w u ps[k]) := hpc
  have HRC : Hid (rows = [] ∨ ∃ b off, rao = some ⟨b, off, none⟩ ∧ b < w.heap.size ∧ ∀ k, (h : k < rows.length) → ∃ u, w.cell? ⟨b, off + k, none⟩ = some u ∧ BsAt w u rows[k]) := hrc
  clear hpc hrc hp hn
  go_enter Tryd.func85, Tryd.ntmps85
  go_wp2
  go_loopw [16] (fun i wr => ∃ k : Nat, k ≤ ps.length ∧ i = .int .i64 k ∧ FilledW wr w.heap.size ps.length k (fun k => wordsOf (ps.getD k []) n) ∧ Below w.heap.size w wr) (fun i _ => ps.length - (intOf i).toNat)
  case atStart => exact ⟨0, Nat.zero_le _, rfl, made_wrows w _ _, (Below.refl _ _).alloc (Nat.le_refl _) _⟩
  case round =>
    obtain ⟨k, hk, rfl, hfl, hbel⟩ := hrel
    by_cases hlt : k < ps.length
    · obtain ⟨u, hu, hbs⟩ := HPC.out k hlt
      rw [← hbel.cell (p := ⟨pb, poff + k, none⟩) hplt] at hu
      have hbs1 := hbs.to hbel
      have hlen := hfit.len k hlt
      have hby := hfit.pbytes k hlt
      have e1 : ps.getD k [] = ps[k] := by simp [hlt]
      have E1 : Hid (ps.getD k [] = ps[k]) := e1
      have hLs := hfit.short
      have HLEN : Hid (ps[k].length = L) := hlen
      clear hbs e1 hlen
      go_wp2_with fail
      refine (toPlanes_any ps[k] _ _ hbs1 hby (by rw [HLEN.out]; exact hLs)).mono ?_
      rintro e w2 ⟨c, hc, rfl, hblk, hw2⟩
      rw [HLEN.out, ← HN.out] at hblk
      rw [HLEN.out, ← HN.out]
      have hfl2 := hfl.to hw2
      obtain ⟨⟨v0, hv0⟩, hfr⟩ := hfl2.cell hlt
      have HF : Hid (FilledW w2 w.heap.size ps.length k (fun k => wordsOf (ps.getD k []) n)) := hfl2
      have HB : Hid (Blk w2 c 138 (wordsV (wordsOf ps[k] n))) := hblk
      clear hfl hfl2 hblk
      go_wp2
      go_roundw
      case rel =>
        refine ⟨k + 1, by omega, by go_num, ?_, ?_⟩
        · have ho : OwnW w2 (.slice (some ⟨c, 0, none⟩) n n) (wordsOf (ps.getD k []) n) := by
            rw [E1.out]
            exact ⟨c, by simp [wordsOf], HB.out⟩
          exact FilledW.step HF.out hlt ho
        · exact (hbel.trans (hw2.mono hbel.size)).setCell (Nat.le_refl _) _
      case measure => simp [intOf]; omega
    · obtain rfl : k = ps.length := by omega
      obtain ⟨wo, rfl⟩ : ∃ wo, wo = wr := ⟨_, rfl⟩
      have hwr : WRowsAt wo (.slice (some ⟨w.heap.size, 0, none⟩) ps.length ps.length) (wordRows ps n) := hfl.rows (by simp [wordRows]) (fun k hk => by
        simp only [wordRows, List.length_map] at hk
        simp [wordRows, hk])
      have HWR : Hid (WRowsAt wo (.slice (some ⟨w.heap.size, 0, none⟩) ps.length ps.length) (wordRows ps n)) := hwr
      have HBO : Hid (Below w.heap.size w wo) := hbel
      have hszo := hbel.size
      clear hfl hwr hbel
      go_wp2
      obtain ⟨u0, hu0, ao0, cap0, rfl, hx0⟩ := HPC.out 0 hfit.some
      rw [hfit.len 0 hfit.some, Nat.add_zero] at hu0
      have HU0 : Hid (w.cell? ⟨pb, poff, none⟩ = some (.slice ao0 L cap0)) := hu0
      clear hu0 hx0
      go_loopw [32] (fun i wr => ∃ k : Nat, k ≤ rows.length ∧ i = .int .i64 k ∧ Filled wr wo.heap.size rows.length k (fun k => sumTo (rows.getD k []) ps L ps.length) ∧ Below wo.heap.size wo wr) (fun i _ => rows.length - (intOf i).toNat)
      case atStart => exact ⟨0, Nat.zero_le _, rfl, made_rows wo _ _, (Below.refl _ _).alloc (Nat.le_refl _) _⟩
      case round =>
        obtain ⟨k, hk, rfl, hfl, hbel⟩ := hrel
        have hbw : Below w.heap.size w wr := HBO.out.trans (hbel.mono hszo)
        by_cases hlt : k < rows.length
        · obtain ⟨b, off, rfl, hb, hc⟩ : ∃ b off, rao = some ⟨b, off, none⟩ ∧ b < w.heap.size ∧ ∀ k, (h : k < rows.length) → ∃ u, w.cell? ⟨b, off + k, none⟩ = some u ∧ BsAt w u rows[k] := by
            rcases HRC.out with h | h
            · rw [h] at hlt; simp at hlt
            · exact h
          obtain ⟨u, hu, hbs⟩ := hc k hlt
          rw [← hbw.cell (p := ⟨b, off + k, none⟩) hb] at hu
          have hp0 := HU0.out
          rw [← hbw.cell (p := ⟨pb, poff, none⟩) hplt] at hp0
          have HBS : Hid (BsAt wr u rows[k]) := hbs.to hbw
          have HWQ : Hid (WRowsAt wr (.slice (some ⟨w.heap.size, 0, none⟩) ps.length ps.length) (wordRows ps n)) := HWR.out.to hbel
          have HT : Hid (Table wr) := table_to ht hbw
          have e1 : rows.getD k [] = rows[k] := by simp [hlt]
          have E1 : Hid (rows.getD k [] = rows[k]) := e1
          have hwl : (wordRows ps n).length = ps.length := by simp [wordRows]
          have HWL : Hid ((wordRows ps n).length = ps.length) := hwl
          have HFL : Hid (Filled wr wo.heap.size rows.length k (fun k => sumTo (rows.getD k []) ps L ps.length)) := hfl
          have hBlt := hfl.lt
          have hplt2 : pb < wr.heap.size := Nat.lt_of_lt_of_le hplt hbw.size
          have hn8 : L ≤ 8 * n := by have := HN.out; omega
          have hnL : n ≤ 1000 := by have := HN.out; have := hfit.short; omega
          have hsh := hfit.short
          have hps : (0 : Int) < (ps.length : Int) := by have := hfit.some; omega
          have HWSL : Hid ((wsumTo rows[k] (wordRows ps n) n (wordRows ps n).length).length = n) := wsumTo_length _ _ _ (fun j hj => by simp [wordRows, wordsOf]) _ (Nat.le_refl _)
          obtain ⟨hcel, hfro⟩ := hfl.cell hlt
          obtain ⟨v0, hv0⟩ := hcel
          clear hc hbs e1 hwl hfl
          go_wp2_with fail
          go_region_with (first | (go_at_call 95; refine (sumOfWords_any rows[k] (wordRows ps n) n _ _ _ (by exact HT.out) (by exact HBS.out) (by rw [← HWL.out]; rw [HWL.out]; exact HWQ.out) (by rw [HWL.out]; exact hfit.some) (by rw [HWL.out]; exact hfit.few) (fun j hj => by simp [wordRows, wordsOf]) (by rw [HWL.out]; exact Nat.le_of_eq (hfit.wide k hlt).symm) (hfit.rbytes k hlt) (fun j hj => by simp only [wordRows, List.getElem_map]; exact wordsOf_words _ _) hnL).mono ?_; rintro e w2 ⟨c, hc2, rfl, hblk2, hw2⟩; have p2 := (hw2.cell (p := ⟨pb, poff, none⟩) (by exact hplt2)).trans hp0; have v2 := (hw2.cell (p := ⟨wo.heap.size, k, none⟩) (by exact hBlt)).trans hv0; have f2 := (hw2.frozen (p := ⟨wo.heap.size, k, none⟩) (by exact hBlt)).trans hfro) | (go_at_call 94; refine (fromPlanes_any (wsumTo rows[k] (wordRows ps n) n (wordRows ps n).length) n L c _ (by exact hblk2) HWSL.out hn8 hsh (wsumTo_words _ _ _ _)).mono ?_; rintro e w3 ⟨c3, hc3, rfl, hblk3, hw3⟩; have hB2 : wo.heap.size < w2.heap.size := Nat.lt_of_lt_of_le hBlt hw2.size; have v3 := (hw3.cell (p := ⟨wo.heap.size, k, none⟩) (by exact hB2)).trans v2; have f3 := (hw3.frozen (p := ⟨wo.heap.size, k, none⟩) (by exact hB2)).trans f2))
          all_goals
            have hw03 : Below wr.heap.size wr w3 := Below.trans (b := w2) (show Below wr.heap.size wr w2 from ⟨hw2.os, hw2.tape, hw2.output, hw2.size, hw2.block⟩) (hw3.mono hw2.size)
            have R := HFL.out.to hw03
            have hbe := bytes_back rows[k] ps L n (hfit.rbytes k hlt) hfit.len hfit.pbytes hn8
            rw [hbe] at hblk3
            have ho : OwnAt w3 (.slice (some ⟨c3, 0, none⟩) L L) (sumTo (rows.getD k []) ps L ps.length) := by
              rw [E1.out]
              exact ⟨c3, by rw [Gf.sumTo_length _ _ _ hfit.len _ (Nat.le_refl _)], hblk3⟩
            have R2 := R.step hlt ho
            have HR2 : Hid (Filled (w3.setCell ⟨wo.heap.size, k, none⟩ (.slice (some ⟨c3, 0, none⟩) L L)) wo.heap.size rows.length (k + 1) (fun k => sumTo (rows.getD k []) ps L ps.length)) := R2
            have HB3 : Hid (Below wo.heap.size wo w3) := hbel.trans (hw03.mono hbel.size)
            clear R R2 ho hbe hblk3 hw03
            go_wp2
            go_roundw
            case rel => exact ⟨k + 1, by omega, by go_num, HR2.out, HB3.out.setCell (Nat.le_refl _) _⟩
            case measure => simp [intOf]; omega
        · obtain rfl : k = rows.length := by omega
          go_wp2
          go_ret
          refine ⟨_, rfl, hfl.rowsC (by simp [sums]) (fun k hk => ?_), hbw⟩
          simp only [sums, List.length_map] at hk
          simp [sums, hk]
end Go.Proofs.YtlnpppdffhibjaaDoor.Planes
