import Derived.Test.YtokmllopbfmadabDoorGMove
import Derived.Test.YtokmllopbfmadabDoorGSolve
import Derived.Test.YtokmllopbfmadabDoorGChangeMath
import Derived.Test.YtokmllopbfmadabDoorGPlanRun
namespace Go.Proofs.YtokmllopbfmadabDoor.Planes
open Go.RowKit Mem FieldWalks Tab ByTab
open Gf (Bytes sumTo addTo)

theorem infoWSlice : (Tryd.prog.info? 113).map (fun i => (i.zero, i.size, i.bytes)) = some (some (.slice none 0 0), 1, 24) := by kernel_rfl
theorem make_wrows (n : Nat) (hn : n ≤ 100000) (w : World) :
    (Instr.makeSlice 112 (.int .i64 (n : Int)) (.int .i64 (n : Int))).run Tryd.prog w = .ok (.slice (some ⟨w.heap.size, 0, none⟩) n n) (w.alloc (.cells (madeCells #[.slice none 0 0] n) 113)) :=
  run_make_row' 112 113 (.slice none 0 0) 24 Tryd.underlying112 infoWSlice rfl .i64 .i64 n (by omega) (by omega) w
theorem made_wrows (w : World) (n : Nat) (f : Nat → List Nat) : FilledW (w.alloc (.cells (madeCells #[.slice none 0 0] n) 113)) w.heap.size n 0 f :=
  FilledW.zero ((Blk.new w _ _).eq (toList_madeCells_one _ n)) (by simp) f

/-- The words of all pieces. -/
def wordRows (ps : List (List Nat)) (n : Nat) : List (List Nat) := ps.map fun p => wordsOf p n
theorem wordsOf_words (p : List Nat) (n : Nat) : Words (wordsOf p n) := by
  intro x hx
  simp only [wordsOf, List.mem_map] at hx
  obtain ⟨i, _, rfl⟩ := hx
  unfold wordAt Gf.planes
  exact Gf.bitsOf_lt 64 _
theorem wordsOf_zero (L n : Nat) : wordsOf (List.replicate L 0) n = List.replicate n 0 := by
  apply List.ext_getElem
  · simp [wordsOf]
  · intro i h1 h2
    simp only [wordsOf, List.getElem_map, List.getElem_range, List.getElem_replicate]
    unfold wordAt Gf.planes
    refine (Gf.eq_bitsOf (n := 64) (Nat.two_pow_pos 64) fun j _ => ?_).symm
    have : (List.replicate L 0).getD (8 * i + j % 8) 0 = 0 := by
      by_cases h : 8 * i + j % 8 < L
      · simp [h]
      · simp [List.getElem?_eq_none (show (List.replicate L 0).length ≤ 8 * i + j % 8 by simp; omega)]
    show Nat.testBit 0 j = ((List.replicate L 0).getD (8 * i + j % 8) 0).testBit (j / 8)
    rw [this]; simp
theorem addTo_getD (f : Nat) (hf : f < 256) (acc p : List Nat) (h : p.length = acc.length) (q : Nat) : (addTo f acc p).getD q 0 = acc.getD q 0 ^^^ Gf.times f (p.getD q 0) := by
  by_cases hq : q < acc.length
  · have h1 : q < (addTo f acc p).length := by rw [Gf.addTo_length h]; exact hq
    have e1 : (addTo f acc p).getD q 0 = (addTo f acc p)[q] := by simp [h1]
    have e2 : acc.getD q 0 = acc[q] := by simp [hq]
    have e3 : p.getD q 0 = p[q]'(by omega) := by simp [show q < p.length by omega]
    rw [e1, e2, e3]; simp [addTo]
  · have e1 : (addTo f acc p).getD q 0 = 0 := by simp [List.getElem?_eq_none (show (addTo f acc p).length ≤ q by rw [Gf.addTo_length h]; omega)]
    have e2 : acc.getD q 0 = 0 := by simp [List.getElem?_eq_none (show acc.length ≤ q by omega)]
    have e3 : p.getD q 0 = 0 := by simp [List.getElem?_eq_none (show p.length ≤ q by omega)]
    rw [e1, e2, e3, Gf.times_zero f hf]; rfl
theorem bytes_getD {p : List Nat} (h : Bytes p) (q : Nat) : p.getD q 0 < 256 := h.getD q
/-- ████ The sums of the words are the words of the sums. ████ -/
theorem wsumTo_words_of (row : List Nat) (ps : List (List Nat)) (L n : Nat) (hr : Bytes row) (hl : ∀ j, (h : j < ps.length) → ps[j].length = L) (hb : ∀ j, (h : j < ps.length) → Bytes ps[j]) :
    ∀ j, j ≤ ps.length → wsumTo row (wordRows ps n) n j = wordsOf (sumTo row ps L j) n
  | 0, _ => by rw [wsumTo, sumTo, wordsOf_zero]
  | j + 1, h => by
    have hj : j < ps.length := by omega
    have ih := wsumTo_words_of row ps L n hr hl hb j (by omega)
    have e1 : (wordRows ps n).getD j [] = wordsOf ps[j] n := by simp [wordRows, hj]
    have e2 : ps.getD j [] = ps[j] := by simp [hj]
    have hs : (sumTo row ps L j).length = L := Gf.sumTo_length row ps L hl j (by omega)
    rw [wsumTo, sumTo, ih, e1, e2, waddTo]
    apply List.ext_getElem
    · simp [wordsOf]
    · intro i h1 h2
      simp only [List.getElem_zipWith, wordsOf, List.getElem_map, List.getElem_range]
      have hf := hr.getD j
      generalize row.getD j 0 = f at hf ⊢
      have em := Gf.moved_planes f hf (fun q => ps[j].getD (8 * i + q) 0) (fun q => (hb j hj).getD _)
      show wordAt _ i ^^^ Gf.moved f (wordAt ps[j] i) 8 = _
      unfold wordAt
      rw [em, Gf.planes_xor]
      congr 1
      funext q
      rw [addTo_getD f hf _ _ (by rw [hl j hj, hs])]

theorem bytes_back (row : List Nat) (ps : List (List Nat)) (L n : Nat) (hr : Bytes row) (hl : ∀ j, (h : j < ps.length) → ps[j].length = L) (hb : ∀ j, (h : j < ps.length) → Bytes ps[j]) (hn : L ≤ 8 * n) :
    bytesOf (wsumTo row (wordRows ps n) n (wordRows ps n).length) L = sumTo row ps L ps.length := by
  have e : (wordRows ps n).length = ps.length := by simp [wordRows]
  have hs : (sumTo row ps L ps.length).length = L := Gf.sumTo_length row ps L hl _ (Nat.le_refl _)
  rw [e, wsumTo_words_of row ps L n hr hl hb _ (Nat.le_refl _)]
  have := bytesOf_words (sumTo row ps L ps.length) n (Gf.sumTo_bytes row ps L hr _) (by omega)
  rw [hs] at this
  exact this

set_option maxRecDepth 100000 in
set_option maxHeartbeats 2000000 in
theorem sumsByPlanes_any (rows ps : List (List Nat)) (L : Nat) (rv pv : Value) (w : World) (ht : Table w) (hr : RowsAt w rv rows) (hp : RowsAt w pv ps) (hfit : Fit rows ps L) :
    Calls Tryd.prog 59 #[rv, pv] w fun e w' => ∃ v, e = .returned v ∧ RowsC w' v (sums rows ps L) ∧ Below w.heap.size w w' := by
  obtain ⟨pb, poff, pcap, rfl, hplt, hpc⟩ := hp.pos hfit.some
  obtain ⟨rao, rcap, rfl, hrc⟩ := hr
  obtain ⟨n, hn⟩ : ∃ n, n = (L + 7) / 8 := ⟨_, rfl⟩
  have hmk := fun w => make_wrows ps.length (by have := hfit.few; omega) w
  have hmr := fun w => make_rows rows.length (by have := hfit.less; omega) w
  have hfew := hfit.few
  have hless := hfit.less
  have HN : Hid (n = (L + 7) / 8) := hn
  have HPC : Hid (∀ k, (h : k < ps.length) → ∃ u, w.cell? ⟨pb, poff + k, none⟩ = some u ∧ BsAt w u ps[k]) := hpc
  have HRC : Hid (rows = [] ∨ ∃ b off, rao = some ⟨b, off, none⟩ ∧ b < w.heap.size ∧ ∀ k, (h : k < rows.length) → ∃ u, w.cell? ⟨b, off + k, none⟩ = some u ∧ BsAt w u rows[k]) := hrc
  clear hpc hrc hp hn
  go_enter Tryd.func59, Tryd.ntmps59
  go_wp2
  go_loopw [16] (fun i wr => ∃ k : Nat, k ≤ ps.length ∧ i = .int .i64 k ∧ FilledW wr w.heap.size ps.length k (fun k => wordsOf (ps.getD k []) n) ∧ Below w.heap.size w wr) (fun i _ => ps.length - (intOf i).toNat)
  case atStart => exact ⟨0, Nat.zero_le _, rfl, made_wrows w _ _, (Below.refl _ _).alloc (Nat.le_refl _) _⟩
  case round =>
    obtain ⟨k, hk, rfl, hfl, hbel⟩ := hrel
    by_cases hlt : k < ps.length
    · obtain ⟨u, hu, hbs⟩ := HPC.out k hlt
      rw [← hbel.cell (p := ⟨pb, poff + k, none⟩) hplt] at hu
      have hbs1 := hbs.to hbel
      have hlen := hfit.len k hlt
      have hby := hfit.pbytes k hlt
      have e1 : ps.getD k [] = ps[k] := by simp [hlt]
      have E1 : Hid (ps.getD k [] = ps[k]) := e1
      have hLs := hfit.short
      have HLEN : Hid (ps[k].length = L) := hlen
      clear hbs e1 hlen
      go_wp2_with fail
      refine (toPlanes_any ps[k] _ _ hbs1 hby (by rw [HLEN.out]; exact hLs)).mono ?_
      rintro e w2 ⟨c, hc, rfl, hblk, hw2⟩
      rw [HLEN.out, ← HN.out] at hblk
      rw [HLEN.out, ← HN.out]
      have hfl2 := hfl.to hw2
      obtain ⟨⟨v0, hv0⟩, hfr⟩ := hfl2.cell hlt
      have HF : Hid (FilledW w2 w.heap.size ps.length k (fun k => wordsOf (ps.getD k []) n)) := hfl2
      have HB : Hid (Blk w2 c 119 (wordsV (wordsOf ps[k] n))) := hblk
      clear hfl hfl2 hblk
      go_wp2
      go_roundw
      case rel =>
        refine ⟨k + 1, by omega, by go_num, ?_, ?_⟩
        · have ho : OwnW w2 (.slice (some ⟨c, 0, none⟩) n n) (wordsOf (ps.getD k []) n) := by
            rw [E1.out]
            exact ⟨c, by simp [wordsOf], HB.out⟩
          exact FilledW.step HF.out hlt ho
        · exact (hbel.trans (hw2.mono hbel.size)).setCell (Nat.le_refl _) _
      case measure => simp [intOf]; omega
    · obtain rfl : k = ps.length := by omega
      obtain ⟨wo, rfl⟩ : ∃ wo, wo = wr := ⟨_, rfl⟩
      have hwr : WRowsAt wo (.slice (some ⟨w.heap.size, 0, none⟩) ps.length ps.length) (wordRows ps n) := hfl.rows (by simp [wordRows]) (fun k hk => by
        simp only [wordRows, List.length_map] at hk
        simp [wordRows, hk])
      have HWR : Hid (WRowsAt wo (.slice (some ⟨w.heap.size, 0, none⟩) ps.length ps.length) (wordRows ps n)) := hwr
      have HBO : Hid (Below w.heap.size w wo) := hbel
      have hszo := hbel.size
      clear hfl hwr hbel
      go_wp2
      obtain ⟨u0, hu0, ao0, cap0, rfl, hx0⟩ := HPC.out 0 hfit.some
      rw [hfit.len 0 hfit.some, Nat.add_zero] at hu0
      have HU0 : Hid (w.cell? ⟨pb, poff, none⟩ = some (.slice ao0 L cap0)) := hu0
      clear hu0 hx0
      go_loopw [32] (fun i wr => ∃ k : Nat, k ≤ rows.length ∧ i = .int .i64 k ∧ Filled wr wo.heap.size rows.length k (fun k => sumTo (rows.getD k []) ps L ps.length) ∧ Below wo.heap.size wo wr) (fun i _ => rows.length - (intOf i).toNat)
      case atStart => exact ⟨0, Nat.zero_le _, rfl, made_rows wo _ _, (Below.refl _ _).alloc (Nat.le_refl _) _⟩
      case round =>
        obtain ⟨k, hk, rfl, hfl, hbel⟩ := hrel
        have hbw : Below w.heap.size w wr := HBO.out.trans (hbel.mono hszo)
        by_cases hlt : k < rows.length
        · obtain ⟨b, off, rfl, hb, hc⟩ : ∃ b off, rao = some ⟨b, off, none⟩ ∧ b < w.heap.size ∧ ∀ k, (h : k < rows.length) → ∃ u, w.cell? ⟨b, off + k, none⟩ = some u ∧ BsAt w u rows[k] := by
            rcases HRC.out with h | h
            · rw [h] at hlt; simp at hlt
            · exact h
          obtain ⟨u, hu, hbs⟩ := hc k hlt
          rw [← hbw.cell (p := ⟨b, off + k, none⟩) hb] at hu
          have hp0 := HU0.out
          rw [← hbw.cell (p := ⟨pb, poff, none⟩) hplt] at hp0
          have HBS : Hid (BsAt wr u rows[k]) := hbs.to hbw
          have HWQ : Hid (WRowsAt wr (.slice (some ⟨w.heap.size, 0, none⟩) ps.length ps.length) (wordRows ps n)) := HWR.out.to hbel
          have HT : Hid (Table wr) := table_to ht hbw
          have e1 : rows.getD k [] = rows[k] := by simp [hlt]
          have E1 : Hid (rows.getD k [] = rows[k]) := e1
          have hwl : (wordRows ps n).length = ps.length := by simp [wordRows]
          have HWL : Hid ((wordRows ps n).length = ps.length) := hwl
          have HFL : Hid (Filled wr wo.heap.size rows.length k (fun k => sumTo (rows.getD k []) ps L ps.length)) := hfl
          have hBlt := hfl.lt
          have hplt2 : pb < wr.heap.size := Nat.lt_of_lt_of_le hplt hbw.size
          have hn8 : L ≤ 8 * n := by have := HN.out; omega
          have hnL : n ≤ 1000 := by have := HN.out; have := hfit.short; omega
          have hsh := hfit.short
          have hps : (0 : Int) < (ps.length : Int) := by have := hfit.some; omega
          have HWSL : Hid ((wsumTo rows[k] (wordRows ps n) n (wordRows ps n).length).length = n) := wsumTo_length _ _ _ (fun j hj => by simp [wordRows, wordsOf]) _ (Nat.le_refl _)
          obtain ⟨hcel, hfro⟩ := hfl.cell hlt
          obtain ⟨v0, hv0⟩ := hcel
          clear hc hbs e1 hwl hfl
          go_wp2_with fail
          go_region_with (first | (go_at_call 68; refine (sumOfWords_any rows[k] (wordRows ps n) n _ _ _ (by exact HT.out) (by exact HBS.out) (by rw [← HWL.out]; rw [HWL.out]; exact HWQ.out) (by rw [HWL.out]; exact hfit.some) (by rw [HWL.out]; exact hfit.few) (fun j hj => by simp [wordRows, wordsOf]) (by rw [HWL.out]; exact Nat.le_of_eq (hfit.wide k hlt).symm) (hfit.rbytes k hlt) (fun j hj => by simp only [wordRows, List.getElem_map]; exact wordsOf_words _ _) hnL).mono ?_; rintro e w2 ⟨c, hc2, rfl, hblk2, hw2⟩; have p2 := (hw2.cell (p := ⟨pb, poff, none⟩) (by exact hplt2)).trans hp0; have v2 := (hw2.cell (p := ⟨wo.heap.size, k, none⟩) (by exact hBlt)).trans hv0; have f2 := (hw2.frozen (p := ⟨wo.heap.size, k, none⟩) (by exact hBlt)).trans hfro) | (go_at_call 67; refine (fromPlanes_any (wsumTo rows[k] (wordRows ps n) n (wordRows ps n).length) n L c _ (by exact hblk2) HWSL.out hn8 hsh (wsumTo_words _ _ _ _)).mono ?_; rintro e w3 ⟨c3, hc3, rfl, hblk3, hw3⟩; have hB2 : wo.heap.size < w2.heap.size := Nat.lt_of_lt_of_le hBlt hw2.size; have v3 := (hw3.cell (p := ⟨wo.heap.size, k, none⟩) (by exact hB2)).trans v2; have f3 := (hw3.frozen (p := ⟨wo.heap.size, k, none⟩) (by exact hB2)).trans f2))
          all_goals
            have hw03 : Below wr.heap.size wr w3 := Below.trans (b := w2) (show Below wr.heap.size wr w2 from ⟨hw2.os, hw2.tape, hw2.output, hw2.size, hw2.block⟩) (hw3.mono hw2.size)
            have R := HFL.out.to hw03
            have hbe := bytes_back rows[k] ps L n (hfit.rbytes k hlt) hfit.len hfit.pbytes hn8
            rw [hbe] at hblk3
            have ho : OwnAt w3 (.slice (some ⟨c3, 0, none⟩) L L) (sumTo (rows.getD k []) ps L ps.length) := by
              rw [E1.out]
              exact ⟨c3, by rw [Gf.sumTo_length _ _ _ hfit.len _ (Nat.le_refl _)], hblk3⟩
            have R2 := R.step hlt ho
            have HR2 : Hid (Filled (w3.setCell ⟨wo.heap.size, k, none⟩ (.slice (some ⟨c3, 0, none⟩) L L)) wo.heap.size rows.length (k + 1) (fun k => sumTo (rows.getD k []) ps L ps.length)) := R2
            have HB3 : Hid (Below wo.heap.size wo w3) := hbel.trans (hw03.mono hbel.size)
            clear R R2 ho hbe hblk3 hw03
            go_wp2
            go_roundw
            case rel => exact ⟨k + 1, by omega, by go_num, HR2.out, HB3.out.setCell (Nat.le_refl _) _⟩
            case measure => simp [intOf]; omega
        · obtain rfl : k = rows.length := by omega
          go_wp2
          go_ret
          refine ⟨_, rfl, hfl.rowsC (by simp [sums]) (fun k hk => ?_), hbw⟩
          simp only [sums, List.length_map] at hk
          simp [sums, hk]
end Go.Proofs.YtokmllopbfmadabDoor.Planes

namespace Go.Proofs.YtokmllopbfmadabDoor.Plans
open Go.RowKit Mem FieldWalks Tab ByTab Planes
open Gf (Bytes)

/-- Bit b of the bytes, as a word: behind k bytes, and of the next where b is below t. -/
def slotTo (p : List Nat) (k t b : Nat) : Nat := Gf.bitsOf 64 fun i => (decide (i < k) || (decide (i = k) && decide (b < t))) && (p.getD i 0).testBit b
def slotOf (p : List Nat) (b : Nat) : Nat := Gf.bitsOf 64 fun i => (p.getD i 0).testBit b
def fillTo (f : Nat → Nat) (o : Nat) (p : List Nat) (k t : Nat) : Nat → Nat := fun i => if o ≤ i ∧ i < o + 8 then slotTo p k t (i - o) else f i
def filled (f : Nat → Nat) (o : Nat) (p : List Nat) : Nat → Nat := fun i => if o ≤ i ∧ i < o + 8 then slotOf p (i - o) else f i
theorem slotTo_lt (p : List Nat) (k t b : Nat) : slotTo p k t b < 18446744073709551616 := Gf.bitsOf_lt 64 _
theorem slotOf_lt (p : List Nat) (b : Nat) : slotOf p b < 18446744073709551616 := Gf.bitsOf_lt 64 _
theorem slotTo_zero (p : List Nat) (b : Nat) : slotTo p 0 0 b = 0 := by
  refine (Gf.eq_bitsOf (n := 64) (Nat.two_pow_pos 64) fun j _ => ?_).symm
  simp
theorem fillTo_start (f : Nat → Nat) (o : Nat) (p : List Nat) (hz : ∀ b, b < 8 → f (o + b) = 0) : fillTo f o p 0 0 = f := by
  funext i
  unfold fillTo
  split
  · rename_i h; rw [slotTo_zero, ← hz (i - o) (by omega)]; congr 1; omega
  · rfl
theorem slotTo_turn (p : List Nat) (k b : Nat) (hb : b < 8) : slotTo p k 8 b = slotTo p (k + 1) 0 b := by
  refine Gf.bitsOf_congr fun j hj => ?_
  by_cases h1 : j < k
  · simp [h1, show j < k + 1 by omega]
  · by_cases h2 : j = k
    · simp [h2, hb]
    · simp [h1, h2, show ¬ j < k + 1 by omega]
theorem fillTo_turn (f : Nat → Nat) (o : Nat) (p : List Nat) (k : Nat) : fillTo f o p k 8 = fillTo f o p (k + 1) 0 := by
  funext i
  unfold fillTo
  split
  · rename_i h; rw [slotTo_turn p k (i - o) (by omega)]
  · rfl
theorem fillTo_all (f : Nat → Nat) (o : Nat) (p : List Nat) : fillTo f o p p.length 0 = filled f o p := by
  funext i
  unfold fillTo filled
  split
  · refine Gf.bitsOf_congr fun j hj => ?_
    by_cases h1 : j < p.length
    · simp [h1]
    · simp [List.getElem?_eq_none (show p.length ≤ j by omega)]
  · rfl
theorem slotTo_next (p : List Nat) (k t : Nat) (hk : k < 64) : slotTo p k t t ||| (if (p.getD k 0).testBit t then 2 ^ k else 0) = slotTo p k (t + 1) t := by
  refine Gf.or_bit _ hk fun j hj => ?_
  by_cases e : j = k
  · subst e; simp
  · simp [e]
theorem fillTo_next (f : Nat → Nat) (o : Nat) (p : List Nat) (k t : Nat) (ht : t < 8) : upd (fillTo f o p k t) (o + t) (slotTo p k (t + 1) t) = fillTo f o p k (t + 1) := by
  funext i
  unfold upd fillTo
  by_cases e : i = o + t
  · subst e; simp [ht]
  · rw [if_neg e]
    split
    · rename_i h
      refine Gf.bitsOf_congr fun j hj => ?_
      have h3 : i - o ≠ t := by omega
      have : (i - o < t + 1) ↔ (i - o < t) := by omega
      simp [this]
    · rfl

set_option maxRecDepth 100000 in
set_option maxHeartbeats 1000000 in
theorem fillSlots_any (f : Nat → Nat) (m o cap S : Nat) (p : List Nat) (pv : Value) (w : World) (hS : Blk w S 120 (wordsV (rowF m f))) (ho : o + 8 ≤ m) (hz : ∀ b, b < 8 → f (o + b) = 0)
    (hp : BsAt w pv p) (hne : ∀ b off n c, pv = .slice (some ⟨b, off, none⟩) n c → b ≠ S) (hb : Bytes p) (hl : p.length ≤ 64) :
    Calls Tryd.prog 70 #[.slice (some ⟨S, o, none⟩) 8 cap, pv] w fun e w' => e = .returned (.tuple #[]) ∧ Blk w' S 120 (wordsV (rowF m (filled f o p))) ∧ But S w w' := by
  obtain ⟨ao, pcap, rfl, hc⟩ := hp
  have HC : Hid (p = [] ∨ ∃ b off, ao = some ⟨b, off, none⟩ ∧ b < w.heap.size ∧ ∀ k, (h : k < p.length) → w.cell? ⟨b, off + k, none⟩ = some (.int .u8 (p[k] : Nat))) := hc
  have HNE : Hid (∀ b off n c, Value.slice ao p.length pcap = .slice (some ⟨b, off, none⟩) n c → b ≠ S) := hne
  clear hc hne
  go_enter Tryd.func70, Tryd.ntmps70
  go_wp2
  go_loopw [9] (fun i wr => ∃ k : Nat, k ≤ p.length ∧ i = .int .i64 k ∧ Blk wr S 120 (wordsV (rowF m (fillTo f o p k 0))) ∧ But S w wr) (fun i _ => p.length - (intOf i).toNat)
  case atStart => exact ⟨0, Nat.zero_le _, rfl, by rw [fillTo_start f o p hz]; exact hS, But.refl _ _⟩
  case round =>
    clear hS
    obtain ⟨k, hk, rfl, hW, hbut⟩ := hrel
    by_cases hlt : k < p.length
    · obtain ⟨b, off, rfl, hblt, hcl⟩ : ∃ b off, ao = some ⟨b, off, none⟩ ∧ b < w.heap.size ∧ ∀ k, (h : k < p.length) → w.cell? ⟨b, off + k, none⟩ = some (.int .u8 (p[k] : Nat)) := by
        rcases HC.out with h | h
        · rw [h] at hlt; simp at hlt
        · exact h
      have hne := HNE.out b off p.length pcap rfl
      have hc0 := hcl k hlt
      rw [← hbut.cell (p := ⟨b, off + k, none⟩) hne hblt] at hc0
      have hxb : p[k] < 256 := hb.at k hlt
      have hxe : p.getD k 0 = p[k] := by simp [hlt]
      generalize p[k] = x at hc0 hxb hxe
      have HXE : Hid (p.getD k 0 = x) := hxe
      clear hcl hxe
      go_wp2
      clear hc0
      go_loopw [14] (fun i wr => ∃ t : Nat, t ≤ 8 ∧ i = .int .i64 t ∧ Blk wr S 120 (wordsV (rowF m (fillTo f o p k t))) ∧ But S w wr) (fun i _ => 8 - (intOf i).toNat)
      case atStart => exact ⟨0, Nat.zero_le _, rfl, hW, hbut⟩
      case round =>
        clear hW hbut
        obtain ⟨t, ht, rfl, hW, hbut⟩ := hrel
        by_cases htlt : t < 8
        · have hc1 := hW.cell_some (k := o + t) (v := .int .u64 (slotTo p k t t : Nat)) (by rw [wordsV_at (by simp; omega), rowF_at]; simp [fillTo, htlt])
          have hf1 := hW.free (o + t)
          have hk64 : k < 64 := by omega
          have EV : Hid (bits .or .u64 (slotTo p k t t : Nat) (IntKind.u64.wrap (IntKind.u64.wrap (bits .and .u8 ((x : Int) / 2 ^ t) 1) * 2 ^ k)) = (slotTo p k (t + 1) t : Nat)) := by
            show _ = _
            rw [bit_word x t k hxb hk64, u64_or_nat _ _ (slotTo_lt _ _ _ _) (bit_lt _ _ hk64), ← HXE.out, slotTo_next p k t hk64]
          have HW : Hid (Blk wr S 120 (wordsV (rowF m (fillTo f o p k t)))) := hW
          generalize slotTo p k t t = old at hc1 EV
          clear hW
          go_wp2
          go_region
          go_wp2
          go_roundw
          case rel =>
            refine ⟨t + 1, by omega, by go_num, ?_, (hbut.setCell _ _).drew⟩
            refine (HW.out.set (o + t) _).drew.eq ?_
            rw [EV.out, wordsV_set, rowF_set, fillTo_next f o p k t htlt]
          case measure => simp [intOf]; omega
        · obtain rfl : t = 8 := by omega
          rw [fillTo_turn] at hW
          go_wp2
          go_roundw
          case rel => exact ⟨k + 1, by omega, by go_num, hW, hbut⟩
          case measure => simp [intOf]; omega
    · obtain rfl : k = p.length := by omega
      rw [fillTo_all] at hW
      go_wp2
      go_end0
      exact ⟨rfl, hW, hbut⟩
end Go.Proofs.YtokmllopbfmadabDoor.Plans

namespace Go.Proofs.YtokmllopbfmadabDoor.Plans
open Go.RowKit Mem FieldWalks Tab ByTab Planes
open Gf (Bytes)

/-- The byte at place k of eight words, behind t of its bits. -/
def byteTo (f : Nat → Nat) (o k t : Nat) : Nat := Gf.bitsOf 8 fun b => decide (b < t) && (f (o + b)).testBit k
def byteOf (f : Nat → Nat) (o k : Nat) : Nat := Gf.bitsOf 8 fun b => (f (o + b)).testBit k
theorem byteTo_lt (f : Nat → Nat) (o k t : Nat) : byteTo f o k t < 256 := Gf.bitsOf_lt 8 _
theorem byteTo_zero (f : Nat → Nat) (o k : Nat) : byteTo f o k 0 = 0 := by
  refine (Gf.eq_bitsOf (n := 8) (Nat.two_pow_pos 8) fun j _ => ?_).symm
  simp
theorem byteTo_all (f : Nat → Nat) (o k : Nat) : byteTo f o k 8 = byteOf f o k := Gf.bitsOf_congr fun j hj => by simp [hj]
theorem byteTo_next (f : Nat → Nat) (o k t : Nat) (ht : t < 8) : byteTo f o k t ||| (if (f (o + t)).testBit k then 2 ^ t else 0) = byteTo f o k (t + 1) := by
  refine Gf.or_bit _ ht fun j hj => ?_
  by_cases e : j = t
  · subst e; simp
  · have h4 : (j < t + 1) ↔ (j < t) := by omega
    simp [e, h4]
/-- The row of bytes behind k bytes from place s on. -/
def readTo (g f : Nat → Nat) (o s k : Nat) : Nat → Nat := fun i => if s ≤ i ∧ i < s + k then byteOf f o (i - s) else g i
theorem readTo_zero (g f : Nat → Nat) (o s : Nat) : readTo g f o s 0 = g := by
  funext i; unfold readTo; rw [if_neg (by omega)]
theorem readTo_next (g f : Nat → Nat) (o s k : Nat) : upd (readTo g f o s k) (s + k) (byteTo f o k 8) = readTo g f o s (k + 1) := by
  funext i
  unfold upd readTo
  by_cases e : i = s + k
  · subst e; rw [byteTo_all]; simp
  · rw [if_neg e]
    by_cases h : s ≤ i ∧ i < s + k
    · rw [if_pos h, if_pos (by omega)]
    · rw [if_neg h, if_neg (by omega)]
theorem upd_upd (f : Nat → Nat) (k x y : Nat) : upd (upd f k x) k y = upd f k y := by
  funext i; unfold upd; split <;> rfl
theorem upd_same (f : Nat → Nat) (k x : Nat) (h : f k = x) : upd f k x = f := by
  funext i; unfold upd; split
  · rename_i e; rw [e, h]
  · rfl

set_option maxRecDepth 100000 in
set_option maxHeartbeats 1000000 in
theorem readSlots_any (f g : Nat → Nat) (m o cap S R L s n rcap : Nat) (w : World) (hS : Blk w S 120 (wordsV (rowF m f))) (hR : Blk w R 5 (bytesV (rowF L g))) (ho : o + 8 ≤ m) (hf : ∀ i, i < m → f i < 18446744073709551616) (hs : s + n ≤ L) (hn : n ≤ 64)
    (hz : ∀ k, k < n → g (s + k) = 0) :
    Calls Tryd.prog 72 #[.slice (some ⟨S, o, none⟩) 8 cap, .slice (some ⟨R, s, none⟩) n rcap] w fun e w' => e = .returned (.tuple #[]) ∧ Blk w' R 5 (bytesV (rowF L (readTo g f o s n))) ∧ But R w w' := by
  have hSR : S ≠ R := hS.type_ne hR (by decide)
  have HS : Hid (Blk w S 120 (wordsV (rowF m f))) := hS
  have HF : Hid (∀ i, i < m → f i < 18446744073709551616) := hf
  have hSlt := hS.lt
  have HZ : Hid (∀ k, k < n → g (s + k) = 0) := hz
  clear hS hf hz
  go_enter Tryd.func72, Tryd.ntmps72
  go_wp2
  go_loopw [8] (fun i wr => ∃ k : Nat, k ≤ n ∧ i = .int .i64 k ∧ Blk wr R 5 (bytesV (rowF L (readTo g f o s k))) ∧ But R w wr) (fun i _ => n - (intOf i).toNat)
  case atStart => exact ⟨0, Nat.zero_le _, rfl, by rw [readTo_zero]; exact hR, But.refl _ _⟩
  case round =>
    clear hR
    obtain ⟨k, hk, rfl, hB, hbut⟩ := hrel
    by_cases hlt : k < n
    · go_wp2
      go_loopw [11] (fun i wr => ∃ t : Nat, t ≤ 8 ∧ i = .int .i64 t ∧ Blk wr R 5 (bytesV (rowF L (upd (readTo g f o s k) (s + k) (byteTo f o k t)))) ∧ But R w wr) (fun i _ => 8 - (intOf i).toNat)
      case atStart =>
        refine ⟨0, Nat.zero_le _, rfl, hB.eq ?_, hbut⟩
        rw [byteTo_zero, upd_same]
        unfold readTo
        rw [if_neg (by omega)]; exact HZ.out k hlt
      case round =>
        clear hB hbut
        obtain ⟨t, ht, rfl, hB, hbut⟩ := hrel
        by_cases htlt : t < 8
        · have hc1 := hB.cell_some (k := s + k) (v := .int .u8 (byteTo f o k t : Nat)) (by rw [bytesV_at (by simp; omega), rowF_at]; simp [upd])
          have hf1 := hB.free (s + k)
          have hcw := (hbut.blk HS.out hSR).cell_some (k := o + t) (v := .int .u64 (f (o + t) : Nat)) (by rw [wordsV_at (by simp; omega), rowF_at])
          have hWb := HF.out (o + t) (by omega)
          obtain ⟨W, hWe⟩ : ∃ W, f (o + t) = W := ⟨_, rfl⟩
          rw [hWe] at hcw hWb
          have HWB : Hid (W < 18446744073709551616) := hWb
          have HWE : Hid (f (o + t) = W) := hWe
          clear hWb hWe
          have EV : Hid (bits .or .u8 (byteTo f o k t : Nat) (bits .and .u64 ((W : Int) / 2 ^ k) 1 % 256 * 2 ^ t % 256) = (byteTo f o k (t + 1) : Nat)) := by
            show _ = _
            rw [← IntKind.wrap_u8', ← IntKind.wrap_u8', bit_byte W k t HWB.out htlt, u8_or_nat _ _ (byteTo_lt _ _ _ _) (bit_lt8 _ _ htlt), ← HWE.out, byteTo_next f o k t htlt]
          have HB : Hid (Blk wr R 5 (bytesV (rowF L (upd (readTo g f o s k) (s + k) (byteTo f o k t))))) := hB
          generalize byteTo f o k t = old at hc1 EV HB
          clear hB
          go_wp2
          go_region
          go_wp2
          go_roundw
          case rel =>
            refine ⟨t + 1, by omega, by go_num, ?_, (hbut.setCell _ _).drew⟩
            refine (HB.out.set (s + k) _).drew.eq ?_
            rw [EV.out, bytesV_set, rowF_set, upd_upd]
          case measure => simp [intOf]; omega
        · obtain rfl : t = 8 := by omega
          rw [readTo_next] at hB
          go_wp2
          go_roundw
          case rel => exact ⟨k + 1, by omega, by go_num, hB, hbut⟩
          case measure => simp [intOf]; omega
    · obtain rfl : k = n := by omega
      go_wp2
      go_end0
      exact ⟨rfl, hB, hbut⟩
end Go.Proofs.YtokmllopbfmadabDoor.Plans

namespace Go.Proofs.YtokmllopbfmadabDoor.Plans
open Go.RowKit Mem FieldWalks Tab ByTab Planes
open Gf (Bytes)

set_option maxRecDepth 100000 in
set_option maxHeartbeats 1000000 in
theorem runSteps_any (f : Nat → Nat) (m S cap : Nat) (ss : List Stp) (sv : Value) (w : World) (hS : Blk w S 120 (wordsV (rowF m f))) (hss : StepsAt w sv ss) (hok : ∀ k, (h : k < ss.length) → ss[k].ok m) (hn : ss.length ≤ 1000000) (hf : ∀ i, f i < 18446744073709551616) :
    Calls Tryd.prog 71 #[sv, .slice (some ⟨S, 0, none⟩) m cap] w fun e w' => e = .returned (.tuple #[]) ∧ Blk w' S 120 (wordsV (rowF m (runOn f ss))) ∧ But S w w' := by
  obtain ⟨ao, scap, rfl, hx⟩ := hss
  have HX : Hid (ss = [] ∨ ∃ g cur, ao = some ⟨g, 0, none⟩ ∧ w.heap[g]? = some (.cells cur 141 (0, 0)) ∧ ∀ k, (h : k < ss.length) → ∀ r, r < 3 → cur[k * 3 + r]? = (ss[k].cells)[r]?) := hx
  have HS : Hid (Blk w S 120 (wordsV (rowF m f))) := hS
  have HOK : Hid (∀ k, (h : k < ss.length) → ss[k].ok m) := hok
  have HF : Hid (∀ i, f i < 18446744073709551616) := hf
  clear hx hS hok hf
  go_enter Tryd.func71, Tryd.ntmps71
  go_wp2
  go_loopw [8] (fun i wr => ∃ k : Nat, k ≤ ss.length ∧ i = .int .i64 k ∧ Blk wr S 120 (wordsV (rowF m (runOn f (ss.take k)))) ∧ But S w wr) (fun i _ => ss.length - (intOf i).toNat)
  case atStart => exact ⟨0, Nat.zero_le _, rfl, HS.out, But.refl _ _⟩
  case round =>
    obtain ⟨k, hk, rfl, hB, hbut⟩ := hrel
    by_cases hlt : k < ss.length
    · obtain ⟨g, cur, rfl, hg, hcu⟩ : ∃ g cur, ao = some ⟨g, 0, none⟩ ∧ w.heap[g]? = some (.cells cur 141 (0, 0)) ∧ ∀ k, (h : k < ss.length) → ∀ r, r < 3 → cur[k * 3 + r]? = (ss[k].cells)[r]? := by
        rcases HX.out with h | h
        · rw [h] at hlt; simp at hlt
        · exact h
      have hgS : g ≠ S := Blk.type_ne (w := w) (vs := cur.toList) (by unfold Blk; rw [hg]) HS.out (by decide)
      have hg1 := (hbut.rest g hgS (lt_of_block hg)).trans hg
      have d0 := (cell_of_row wr g (k * 3 + 0) cur _ _ hg1).trans (hcu k hlt 0 (by decide))
      have d1 := (cell_of_row wr g (k * 3 + 1) cur _ _ hg1).trans (hcu k hlt 1 (by decide))
      have d2 := (cell_of_row wr g (k * 3 + 2) cur _ _ hg1).trans (hcu k hlt 2 (by decide))
      have hk1 := HOK.out k hlt
      have E : Hid (runOn f (ss.take (k + 1)) = step1 (runOn f (ss.take k)) ss[k]) := runOn_take f ss k hlt
      generalize ss[k] = s at d0 d1 d2 hk1 E
      obtain ⟨to, src, fresh⟩ := s
      simp only [Stp.cells, List.getElem?_cons_zero, List.getElem?_cons_succ, Nat.add_zero] at d0 d1 d2
      have hto : to < m := hk1.1
      have hsrc : src < m := hk1.2
      have HFK : Hid (∀ i, runOn f (ss.take k) i < 18446744073709551616) := runOn_lt _ _ HF.out
      generalize runOn f (ss.take k) = h at hB E HFK
      have ct := hB.cell_some (k := to) (v := .int .u64 (h to : Nat)) (by rw [wordsV_at (by simpa using hto), rowF_at])
      have cs := hB.cell_some (k := src) (v := .int .u64 (h src : Nat)) (by rw [wordsV_at (by simpa using hsrc), rowF_at])
      have ft := hB.free to
      have hSlt := hB.lt
      have HB : Hid (Blk wr S 120 (wordsV (rowF m h))) := hB
      have hn1 := hbut.size
      clear hB hg hg1 hcu hk1
      cases fresh
      · go_wp2
        go_region
        go_wp2
        go_roundw
        case rel =>
          refine ⟨k + 1, by omega, by go_num, ?_, ((hbut.setCell _ _).alloc _).drew⟩
          refine (((HB.out.set to _).alloc _).drew).eq ?_
          rw [u64_xor_nat _ _ (HFK.out _) (HFK.out _), wordsV_set, rowF_set, E.out]
          rfl
        case measure => simp [intOf]; omega
      · go_wp2
        go_region
        go_wp2
        go_roundw
        case rel =>
          refine ⟨k + 1, by omega, by go_num, ?_, ((hbut.setCell _ _).alloc _).drew⟩
          refine (((HB.out.set to _).alloc _).drew).eq ?_
          rw [wordsV_set, rowF_set, E.out]
          rfl
        case measure => simp [intOf]; omega
    · obtain rfl : k = ss.length := by omega
      rw [List.take_length] at hB
      go_wp2
      go_end0
      exact ⟨rfl, hB, hbut⟩
end Go.Proofs.YtokmllopbfmadabDoor.Plans

/- What the sums of slots are, as bytes. -/
namespace Go.Proofs.YtokmllopbfmadabDoor.Plans
open Gf (sumTo addTo Bytes)

theorem xs_in (f : Nat → Nat) (fct o c k x : Nat) (hfct : fct < 256) (hf : ∀ b, b < 8 → (f (o + b)).testBit k = x.testBit b) : ∀ b, b ≤ 8 → (xs f (turnIn fct c o b)).testBit k = (Gf.times fct (Gf.bitsOf b x.testBit)).testBit c
  | 0, _ => by rw [turnIn, xs_nil, Gf.bitsOf, Gf.times_zero fct hfct]; simp
  | b + 1, hb => by
    rw [turnIn, xs_append, Nat.testBit_xor, xs_in f fct o c k x hfct hf b (by omega), Gf.times_bits fct b hfct, Nat.testBit_xor]
    congr 1
    cases h1 : (Gf.times fct (2 ^ b)).testBit c
    · cases h2 : x.testBit b <;> simp [xs, h1]
    · have := hf b (by omega)
      rw [if_pos rfl, xs_one, this]
      cases h2 : x.testBit b <;> simp [h1]
/-- ████ The slots' sum is the bit of the sum. ████ -/
theorem xs_to (f : Nat → Nat) (row : List Nat) (ps : List (List Nat)) (L c k q : Nat) (hr : Bytes row) (hl : ∀ j, (h : j < ps.length) → ps[j].length = L) (hb : ∀ j, (h : j < ps.length) → Bytes ps[j])
    (hf : ∀ j, j < ps.length → ∀ b, b < 8 → (f (8 * j + b)).testBit k = ((ps.getD j []).getD q 0).testBit b) : ∀ j, j ≤ ps.length → (xs f (turnTo row c j)).testBit k = ((sumTo row ps L j).getD q 0).testBit c
  | 0, _ => by
    have : (List.replicate L 0).getD q 0 = 0 := by
      by_cases h : q < L
      · simp [h]
      · simp [List.getElem?_eq_none (show (List.replicate L 0).length ≤ q by simp; omega)]
    rw [turnTo, xs_nil, sumTo, this]; simp
  | j + 1, hj => by
    have hlt : j < ps.length := by omega
    have e2 : ps.getD j [] = ps[j] := by simp [hlt]
    have hs : (sumTo row ps L j).length = L := Gf.sumTo_length row ps L hl j (by omega)
    have hx : ps[j].getD q 0 < 256 := (hb j hlt).getD q
    have hfj := hf j hlt
    rw [e2] at hfj
    rw [turnTo, xs_append, Nat.testBit_xor, xs_to f row ps L c k q hr hl hb hf j (by omega), xs_in f _ _ c k _ (hr.getD j) hfj 8 (Nat.le_refl _), Gf.bitsOf_self (n := 8) hx, sumTo, e2,
      Planes.addTo_getD _ (hr.getD j) _ _ (by rw [hl j hlt, hs]), Nat.testBit_xor]
theorem byte_sum (f : Nat → Nat) (rows ps : List (List Nat)) (L k q i : Nat) (he : Ends rows ps.length) (hi : i < rows.length) (hr : Bytes (rows.getD i [])) (hl : ∀ j, (h : j < ps.length) → ps[j].length = L) (hb : ∀ j, (h : j < ps.length) → Bytes ps[j])
    (h0 : ∀ j, 8 * ps.length ≤ j → f j = 0) (hf : ∀ j, j < ps.length → ∀ b, b < 8 → (f (8 * j + b)).testBit k = ((ps.getD j []).getD q 0).testBit b) :
    byteOf (runOn f (planTo rows ps.length ps.length)) (8 * (ps.length + i)) k = (sumTo (rows.getD i []) ps L ps.length).getD q 0 := by
  have hs := Gf.sumTo_bytes (rows.getD i []) ps L hr ps.length
  refine (Gf.eq_bitsOf (n := 8) (hs.getD q) fun c hc => ?_).symm
  have e : 8 * (ps.length + i) + c = 8 * ps.length + (8 * i + c) := by omega
  rw [e, (run_plan f rows ps.length he h0 ps.length (Nat.le_refl _)).2 (8 * i + c) (by omega), show (8 * i + c) / 8 = i by omega, show (8 * i + c) % 8 = c by omega, xs_to f _ ps L c k q hr hl hb hf _ (Nat.le_refl _)]
end Go.Proofs.YtokmllopbfmadabDoor.Plans
