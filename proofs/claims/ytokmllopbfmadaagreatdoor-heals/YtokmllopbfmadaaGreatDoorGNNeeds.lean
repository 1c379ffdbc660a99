import Derived.Test.YtokmllopbfmadaaGreatDoorGPairMap
import Derived.Test.YtokmllopbfmadaaGreatDoorGFill
import Derived.Test.YtokmllopbfmadaaGreatDoorGTables
import Derived.Test.YtokmllopbfmadaaGreatDoorGPlanRun
import Derived.Deep.RegionHeld3
import Derived.Deep.RegionLaw
import Derived.Test.YtokmllopbfmadaaGreatDoorGNDelete
namespace Go.Proofs.YtokmllopbfmadaaGreatDoor.Plans
open Go.RowKit Mem FieldWalks Tab Planes

/-- The first k lists. -/
def needsK (rows : List (List Nat)) (j k : Nat) : List (List Nat) := (List.range (8 * rows.length)).map fun q => if q < k then turnIn ((rows.getD (q / 8) []).getD j 0) (q % 8) (8 * j) 8 else []
theorem needsK_length (rows : List (List Nat)) (j k : Nat) : (needsK rows j k).length = 8 * rows.length := by simp [needsK]
theorem needsK_zero (rows : List (List Nat)) (j : Nat) : needsK rows j 0 = List.replicate (8 * rows.length) [] := by simp [needsK, List.map_const']
theorem needsK_all (rows : List (List Nat)) (j : Nat) : needsK rows j (8 * rows.length) = needs rows j := List.map_congr_left fun q hq => by rw [if_pos (List.mem_range.1 hq)]
theorem needsK_at (rows : List (List Nat)) (j k : Nat) : (needsK rows j k).getD k [] = [] := by
  by_cases h : k < 8 * rows.length
  · simp [needsK, List.getD_eq_getElem?_getD, h]
  · rw [List.getD_eq_getElem?_getD, List.getElem?_eq_none (by rw [needsK_length]; omega)]; rfl
theorem needsK_next (rows : List (List Nat)) (j k : Nat) : (needsK rows j k).set k (turnIn ((rows.getD (k / 8) []).getD j 0) (k % 8) (8 * j) 8) = needsK rows j (k + 1) := by
  apply List.ext_getElem?
  intro q
  by_cases hq : q < 8 * rows.length
  · by_cases e : k = q
    · subst e
      rw [List.getElem?_set_self (by rw [needsK_length]; exact hq)]
      simp [needsK, hq]
    · rw [List.getElem?_set_ne e]
      simp only [needsK, List.getElem?_map, List.getElem?_range hq, Option.map_some]
      congr 1
      by_cases h : q < k
      · rw [if_pos h, if_pos (by omega)]
      · rw [if_neg h, if_neg (by omega)]
  · rw [List.getElem?_eq_none (by simp [needsK_length]; omega), List.getElem?_eq_none (by rw [needsK_length]; omega)]
theorem infoInts : (Tryz.prog.info? 32).map (fun i => (i.zero, i.size, i.bytes)) = some (some (.slice none 0 0), 1, 24) := by kernel_rfl
theorem make_lists (n : Nat) (hn : n ≤ 100000) (w : World) :
    (Instr.makeSlice 164 (.int .i64 (n : Int)) (.int .i64 (n : Int))).run Tryz.prog w = .ok (.slice (some ⟨w.heap.size, 0, none⟩) n n) (w.alloc (.cells (madeCells #[.slice none 0 0] n) 32)) :=
  run_make_row' 164 32 (.slice none 0 0) 24 Tryz.underlying164 infoInts rfl .i64 .i64 n (by omega) (by omega) w
/-- The needs of a piece, in memory. -/
structure NSt (w : World) (B M base N : Nat) (L : List (List Nat)) : Prop where
  lists : LS w B base L
  pairs : PM w M N (cntI L)
theorem NSt.to {w w' : World} {B M base N : Nat} {L : List (List Nat)} (h : NSt w B M base N L) (hb : Below w.heap.size w w') : NSt w' B M base N L := ⟨h.lists.to hb, h.pairs.to hb⟩
def needsV (B M m : Nat) : List Value := [.slice (some ⟨B, 0, none⟩) m m, .map (some M)]

set_option maxRecDepth 100000 in
set_option maxHeartbeats 2000000 in
theorem needsOf_any (rows : List (List Nat)) (n j : Nat) (rv : Value) (w : World) (ht : Table w) (hr : RowsAt w rv rows) (hlen : ∀ i, (h : i < rows.length) → rows[i].length = n) (hb : ∀ i, (h : i < rows.length) → Gf.Bytes rows[i]) (hn : n ≤ 100) (hm : rows.length ≤ 100) (hj : j < n) :
    Calls Tryz.prog 110 #[rv, .int .i64 j] w fun e w' => ∃ B M, e = .returned (.agg (needsV B M (8 * rows.length)).toArray) ∧ NSt w' B M w.heap.size (64 * (8 * rows.length)) (needs rows j) ∧ w.heap.size ≤ B ∧ w.heap.size ≤ M ∧ Below w.heap.size w w' := by
  obtain ⟨rao, rcap, rfl, hrc⟩ := hr
  obtain ⟨m8, hm8⟩ : ∃ m8, m8 = 8 * rows.length := ⟨_, rfl⟩
  have e8 : 8 * (rows.length : Int) = (m8 : Int) := by omega
  have hmk := fun w => make_lists m8 (by omega) w
  have HRC : Hid (rows = [] ∨ ∃ b off, rao = some ⟨b, off, none⟩ ∧ b < w.heap.size ∧ ∀ k, (h : k < rows.length) → ∃ u, w.cell? ⟨b, off + k, none⟩ = some u ∧ BsAt w u rows[k]) := hrc
  have HLEN : Hid (∀ i, (h : i < rows.length) → rows[i].length = n) := hlen
  have HBY : Hid (∀ i, (h : i < rows.length) → Gf.Bytes rows[i]) := hb
  have HM8 : Hid (m8 = 8 * rows.length) := hm8
  have hm8b : m8 ≤ 800 := by omega
  clear hrc hlen hb hm8
  go_enter Tryz.func110, Tryz.ntmps110
  have hmm := fun w => run_makeMap (P := Tryz.prog) 165 w
  go_wp2
  go_loopw [19] (fun iv wr => ∃ i : Nat, i ≤ rows.length ∧ iv = .int .i64 i ∧ NSt wr (w.heap.size + 1) (w.heap.size + 1 + 1) w.heap.size (64 * (8 * i)) (needsK rows j (8 * i)) ∧ Blk wr w.heap.size 167 [.slice none 0 0, .map none] ∧ Blk wr (w.heap.size + 1 + 1 + 1) 167 (needsV (w.heap.size + 1) (w.heap.size + 1 + 1) m8) ∧ Below w.heap.size w wr) (fun iv _ => rows.length - (intOf iv).toNat)
  case atStart =>
    have hL := Blk.new1 w (.cells #[.slice none 0 0, .map none] 167) (madeCells #[.slice none 0 0] m8) 32
    rw [toList_madeCells_one] at hL
    have hP := PM.made ((w.alloc (.cells #[.slice none 0 0, .map none] 167)).alloc (.cells (madeCells #[.slice none 0 0] m8) 32))
    refine ⟨0, Nat.zero_le _, rfl, ⟨?_, ?_⟩, (((Blk.new w _ _).alloc _).alloc _).alloc _, ?_, ?_⟩
    · rw [Nat.mul_zero, needsK_zero, ← HM8.out]
      exact LS.made _ _ _ _ ((hL.alloc _).alloc _)
    · rw [Nat.mul_zero, needsK_zero]
      have hz : ∀ x y, (0 : Int) = cntI (List.replicate (8 * rows.length) []) x y := by
        intro x y
        unfold cntI cnt
        split
        · rw [List.countP_replicate]; simp [both]
        · rfl
      have := (hP.alloc (.cells #[.slice (some ⟨w.heap.size + 1, 0, none⟩) m8 m8, .map (some (w.heap.size + 1 + 1))] 167)).eq hz
      simpa using this
    · have := Blk.new (((w.alloc (.cells #[.slice none 0 0, .map none] 167)).alloc (.cells (madeCells #[.slice none 0 0] m8) 32)).alloc (.map #[] 0)) #[.slice (some ⟨w.heap.size + 1, 0, none⟩) m8 m8, .map (some (w.heap.size + 1 + 1))] 167
      simpa [needsV] using this
    · exact ((((Below.refl _ _).alloc (Nat.le_refl _) _).alloc (by simp) _).alloc (by simp; omega) _).alloc (by simp; omega) _
  case round =>
    obtain ⟨i, hi, rfl, hst, hres, hbox, hbel⟩ := hrel
    clear hmk hmm
    by_cases hlt : i < rows.length
    · obtain ⟨b, off, rfl, hblt, hc⟩ : ∃ b off, rao = some ⟨b, off, none⟩ ∧ b < w.heap.size ∧ ∀ k, (h : k < rows.length) → ∃ u, w.cell? ⟨b, off + k, none⟩ = some u ∧ BsAt w u rows[k] := by
        rcases HRC.out with h | h
        · rw [h] at hlt; simp at hlt
        · exact h
      obtain ⟨u, hu, hbs⟩ := hc i hlt
      rw [← hbel.cell (p := ⟨b, off + i, none⟩) hblt] at hu
      have hby := HBY.out i hlt
      have hln := HLEN.out i hlt
      have HRG : Hid (rows.getD i [] = rows[i]) := by show _ = _; simp [hlt]
      generalize rows[i] = row at hbs hby hln HRG
      obtain ⟨ao, cap, rfl, hx⟩ := hbs
      rw [hln] at hu
      obtain ⟨rb, roff, rfl, hrlt, hrc⟩ : ∃ b off, ao = some ⟨b, off, none⟩ ∧ b < w.heap.size ∧ ∀ k, (h : k < row.length) → w.cell? ⟨b, off + k, none⟩ = some (.int .u8 (row[k] : Nat)) := by
        rcases hx with h | h
        · rw [h] at hln; simp at hln; omega
        · exact h
      have hrj := hrc j (by omega)
      rw [← hbel.cell (p := ⟨rb, roff + j, none⟩) hrlt] at hrj
      have hfb := hby.at j (by omega)
      have HFE : Hid (row.getD j 0 = row[j]) := by show _ = _; simp [show j < row.length by omega]
      generalize row[j] = f at hrj hfb HFE
      have HST : Hid (NSt wr (w.heap.size + 1) (w.heap.size + 1 + 1) w.heap.size (64 * (8 * i)) (needsK rows j (8 * i))) := hst
      have HRES : Hid (Blk wr w.heap.size 167 [.slice none 0 0, .map none]) := hres
      have HBOX : Hid (Blk wr (w.heap.size + 1 + 1 + 1) 167 (needsV (w.heap.size + 1) (w.heap.size + 1 + 1) m8)) := hbox
      have HBEL : Hid (Below w.heap.size w wr) := hbel
      have hT := table_to ht hbel
      clear hrc hx hc hst hres hbox hby
      go_wp2_with fail
      refine (columns_any f hfb _ hT).mono ?_
      rintro e w1 ⟨rfl, hw1⟩
      have HST1 : Hid (NSt w1 (w.heap.size + 1) (w.heap.size + 1 + 1) w.heap.size (64 * (8 * i)) (needsK rows j (8 * i))) := HST.out.to hw1
      have HRES1 : Hid (Blk w1 w.heap.size 167 [.slice none 0 0, .map none]) := HRES.out.to hw1
      have HBOX1 : Hid (Blk w1 (w.heap.size + 1 + 1 + 1) 167 (needsV (w.heap.size + 1) (w.heap.size + 1 + 1) m8)) := HBOX.out.to hw1
      have HBEL1 : Hid (Below w.heap.size w w1) := HBEL.out.trans (hw1.mono HBEL.out.size)
      have HS : Hid ((Tryz.prog.info? 173).map (·.size) = some (bytesV (colsOf f)).toArray.size) := by show _ = _; rw [infoCols]; simp [colsOf]
      clear hw1 HST HRES HBOX HBEL hT hu hrj hbel
      have HZ : Hid (Blk (w1.alloc (.cells #[.int .u8 0, .int .u8 0, .int .u8 0, .int .u8 0, .int .u8 0, .int .u8 0, .int .u8 0, .int .u8 0] 173)) w1.heap.size 173 [.int .u8 0, .int .u8 0, .int .u8 0, .int .u8 0, .int .u8 0, .int .u8 0, .int .u8 0, .int .u8 0]) := Blk.new w1 _ _
      have H1 : Hid ((bytesV (colsOf f)).toArray.all (·.oneCell') = true) := bytesV_one _
      have HLC : Hid ((bytesV (colsOf f)).toArray.toList = bytesV (colsOf f)) := by show _ = _; simp
      have HRW : Hid (Blk ((w1.alloc (.cells #[.int .u8 0, .int .u8 0, .int .u8 0, .int .u8 0, .int .u8 0, .int .u8 0, .int .u8 0, .int .u8 0] 173)).setRow w1.heap.size (bytesV (colsOf f)).toArray) w1.heap.size 173 (bytesV (colsOf f)).toArray.toList) := HZ.out.row _
      have HBW : Hid (Below w1.heap.size w1 ((w1.alloc (.cells #[.int .u8 0, .int .u8 0, .int .u8 0, .int .u8 0, .int .u8 0, .int .u8 0, .int .u8 0, .int .u8 0] 173)).setRow w1.heap.size (bytesV (colsOf f)).toArray)) := below_row ((Below.refl _ _).alloc (Nat.le_refl _) _) (Nat.le_refl _) _
      have HSZ8 : Hid ((bytesV (colsOf f)).toArray.size = 8) := by show _ = _; simp [colsOf]
      generalize (bytesV (colsOf f)).toArray = cs at HS H1 HLC HRW HBW HSZ8 ⊢
      go_wp2_with (refine wpList_store_row rfl 173 _ _ rfl w1.heap.size cs rfl rfl 173 _ HZ.out HS.out (by rw [HSZ8.out]; rfl) H1.out ?_)
      obtain ⟨w2, hw2⟩ : ∃ w2, w2 = (w1.alloc (.cells #[.int .u8 0, .int .u8 0, .int .u8 0, .int .u8 0, .int .u8 0, .int .u8 0, .int .u8 0, .int .u8 0] 173)).setRow w1.heap.size cs := ⟨_, rfl⟩
      rw [← hw2] at HRW HBW ⊢
      clear hw2 HZ H1
      obtain ⟨o, ho⟩ : ∃ o, o = 8 * i := ⟨_, rfl⟩
      have eo : 8 * (i : Int) = (o : Int) := by omega
      have ho8 : o + 8 ≤ m8 := by have := HM8.out; omega
      have HO : Hid (o = 8 * i) := ho
      have HST2 : Hid (NSt w2 (w.heap.size + 1) (w.heap.size + 1 + 1) w.heap.size (64 * (o + 0)) (needsK rows j (o + 0))) := by
        show NSt _ _ _ _ _ _
        rw [ho]; exact HST1.out.to HBW.out
      have HRES2 : Hid (Blk w2 w.heap.size 167 [.slice none 0 0, .map none]) := HRES1.out.to HBW.out
      have HBOX2 : Hid (Blk w2 (w.heap.size + 1 + 1 + 1) 167 (needsV (w.heap.size + 1) (w.heap.size + 1 + 1) m8)) := HBOX1.out.to HBW.out
      have HBEL2 : Hid (Below w.heap.size w w2) := HBEL1.out.trans (HBW.out.mono HBEL1.out.size)
      obtain ⟨C, hC⟩ : ∃ C, C = w1.heap.size := ⟨_, rfl⟩
      have HC0 : Hid (w.heap.size < C ∧ w.heap.size + 1 + 1 + 1 < C) := by
        have := HBOX1.out.lt
        show _ ∧ _
        omega
      rw [← hC] at HRW ⊢
      obtain ⟨q, hq⟩ : ∃ q, q = 8 * j := ⟨_, rfl⟩
      have eq8 : 8 * (j : Int) = (q : Int) := by omega
      have hq8 : q ≤ 1000 := by omega
      have HQ : Hid (q = 8 * j) := hq
      clear hq
      clear hC ho HST1 HRES1 HBOX1 HBEL1 HBW
      go_loopw [29] (fun bv wq => ∃ b : Nat, b ≤ 8 ∧ bv = .int .i64 b ∧ NSt wq (w.heap.size + 1) (w.heap.size + 1 + 1) w.heap.size (64 * (o + b)) (needsK rows j (o + b)) ∧ Blk wq w.heap.size 167 [.slice none 0 0, .map none] ∧ Blk wq (w.heap.size + 1 + 1 + 1) 167 (needsV (w.heap.size + 1) (w.heap.size + 1 + 1) m8) ∧ Blk wq C 173 cs.toList ∧ Below w.heap.size w wq) (fun bv _ => 8 - (intOf bv).toNat)
      case atStart => exact ⟨0, Nat.zero_le _, rfl, HST2.out, HRES2.out, HBOX2.out, HRW.out, HBEL2.out⟩
      case round =>
        clear HST2 HRES2 HBOX2 HRW HBEL2
        obtain ⟨c, hc8, rfl, hst, hres, hbox, hcol, hbq⟩ := hrel
        by_cases hclt : c < 8
        · have HST : Hid (NSt wr (w.heap.size + 1) (w.heap.size + 1 + 1) w.heap.size (64 * (o + c)) (needsK rows j (o + c))) := hst
          have HRES : Hid (Blk wr w.heap.size 167 [.slice none 0 0, .map none]) := hres
          have HBOX : Hid (Blk wr (w.heap.size + 1 + 1 + 1) 167 (needsV (w.heap.size + 1) (w.heap.size + 1 + 1) m8)) := hbox
          have HCOL : Hid (Blk wr C 173 cs.toList) := hcol
          have HBQ : Hid (Below w.heap.size w wr) := hbq
          clear hst hres hbox hcol hbq
          have HTU : Hid (∀ W, Calls Tryz.prog 118 #[.agg cs, .int .i64 c, .int .i64 q] W fun e w' => ∃ v, e = .returned v ∧ w'.ownsRow W.heap.size 3 1 v (turnIn f c q 8).length (intsV (turnIn f c q 8)) ∧ Below W.heap.size W w') := by
            intro W
            have e : cs = (bytesV (colsOf f)).toArray := by rw [← HLC.out, Array.toArray_toList]
            rw [e]; exact turners_any f c q W hfb hclt hq8
          go_wp2_with (first | (refine wpList_load_row rfl 173 _ rfl C rfl 173 _ _ _ HCOL.out Tryz.underlying173 rfl HS.out ?_) | fail)
          refine (HTU.out _).mono ?_
          rintro e w3 ⟨tv, rfl, hto, hw3⟩
          have HLT : Hid (turnIn f c q 8 = turnIn ((rows.getD ((o + c) / 8) []).getD j 0) ((o + c) % 8) (8 * j) 8) := by
            show _ = _
            rw [HO.out, show (8 * i + c) / 8 = i by omega, show (8 * i + c) % 8 = c by omega, HRG.out, HFE.out, HQ.out]
          have hlel := turnIn_le f c q 8
          have HRI : Hid ((turnIn f c q 8).Pairwise (· < ·)) := turnIn_rising _ _ _ _
          have HME : Hid (∀ x, x ∈ turnIn f c q 8 → x < 1000000) := fun x hx => by have := turnIn_mem _ _ _ _ _ hx; omega
          generalize turnIn f c q 8 = l at hto hlel HLT HRI HME
          obtain ⟨ta, tc, rfl⟩ := owns_form hto
          have hk8 : o + c < (needsK rows j (o + c)).length := by rw [needsK_length]; have := HM8.out; omega
          obtain ⟨ov, hov, _⟩ := HST.out.lists.at hk8
          have hBlt := HST.out.lists.lt
          have hMlt := HST.out.pairs.lt
          have HLS : Hid (LS (w3.setCell ⟨w.heap.size + 1, o + c, none⟩ (.slice ta l.length tc)) (w.heap.size + 1) w.heap.size ((needsK rows j (o + c)).set (o + c) l)) :=
            HST.out.lists.put hk8 hov (hw3.block _ hBlt) (fun g _ hg _ => hw3.block g hg.lt) (own_base hto HBQ.out.size) (fun g hg => .inr (own_block hto g hg))
          have HPM : Hid (PM (w3.setCell ⟨w.heap.size + 1, o + c, none⟩ (.slice ta l.length tc)) (w.heap.size + 1 + 1) (64 * (o + c)) (cntI (needsK rows j (o + c)))) :=
            (HST.out.pairs.to hw3).block (Below.heap_setCell w3 _ (.slice ta l.length tc) _ (by show _ ≠ w.heap.size + 1; omega))
          have HIA : Hid (IntsAt (w3.setCell ⟨w.heap.size + 1, o + c, none⟩ (.slice ta l.length tc)) (.slice ta l.length tc) l) := by
            refine IntsAt.of_owns (base := wr.heap.size) (own_keep hto (fun g us hg _ => Below.heap_setCell w3 _ (.slice ta l.length tc) g ?_))
            have := own_block hto g hg
            show _ ≠ w.heap.size + 1
            omega
          have HRES3 : Hid (Blk (w3.setCell ⟨w.heap.size + 1, o + c, none⟩ (.slice ta l.length tc)) w.heap.size 167 [.slice none 0 0, .map none]) := (HRES.out.to hw3).other (by show _ ≠ w.heap.size + 1; omega) _
          have hbox3 := HBOX.out.to hw3
          have HBOX3 : Hid (Blk (w3.setCell ⟨w.heap.size + 1, o + c, none⟩ (.slice ta l.length tc)) (w.heap.size + 1 + 1 + 1) 167 (needsV (w.heap.size + 1) (w.heap.size + 1 + 1) m8)) := hbox3.other (by show _ ≠ w.heap.size + 1; omega) _
          have HCOL3 : Hid (Blk (w3.setCell ⟨w.heap.size + 1, o + c, none⟩ (.slice ta l.length tc)) C 173 cs.toList) := (HCOL.out.to hw3).other (by have := HC0.out; show _ ≠ w.heap.size + 1; omega) _
          have HBQ3 : Hid (Below w.heap.size w (w3.setCell ⟨w.heap.size + 1, o + c, none⟩ (.slice ta l.length tc))) := (HBQ.out.trans (hw3.mono HBQ.out.size)).setCell (by show _ ≤ w.heap.size + 1; omega) _
          have b0 := hbox3.cell_some (k := 0) (v := .slice (some ⟨w.heap.size + 1, 0, none⟩) m8 m8) rfl
          have b1 := HBOX3.out.cell_some (k := 0) (v := .slice (some ⟨w.heap.size + 1, 0, none⟩) m8 m8) rfl
          have b2 := HBOX3.out.cell_some (k := 1) (v := .map (some (w.heap.size + 1 + 1))) rfl
          have hfr := (HST.out.lists.to hw3).free (o + c)
          rw [← hw3.cell (p := ⟨w.heap.size + 1, o + c, none⟩) hBlt] at hov
          have q1 : (o : Int) + (c : Int) < (m8 : Int) := by omega
          clear hto hw3 hbox3 HST HRES HBOX HCOL HBQ HTU
          go_wp2_with fail
          refine (count_any l 1 _ (w.heap.size + 1 + 1) _ _ (.slice ta l.length tc) _ HIA.out HPM.out (.inl rfl) (cntI_le _ (by rw [needsK_length]; have := HM8.out; omega)) (by omega) HME.out (by omega)).mono ?_
          rintro e w5 ⟨rfl, hp5, hb5⟩
          have HN5 : Hid (NSt w5 (w.heap.size + 1) (w.heap.size + 1 + 1) w.heap.size (64 * (o + (c + 1))) (needsK rows j (o + (c + 1)))) := by
            have e1 : (needsK rows j (o + c)).set (o + c) l = needsK rows j (o + (c + 1)) := by rw [HLT.out]; exact needsK_next rows j (o + c)
            have h1 := HLS.out.map HPM.out hb5
            rw [e1] at h1
            have hll : l.length * l.length ≤ 8 * 8 := Nat.mul_le_mul hlel hlel
            have h2 := (hp5.mono (m := 64 * (o + (c + 1))) (by omega)).eq (count_set (needsK rows j (o + c)) (o + c) l hk8 (needsK_at rows j (o + c)) HRI.out)
            rw [e1] at h2
            exact ⟨h1, h2⟩
          have HR5 : Hid (Blk w5 w.heap.size 167 [.slice none 0 0, .map none]) := hb5.blk HRES3.out (by omega)
          have HX5 : Hid (Blk w5 (w.heap.size + 1 + 1 + 1) 167 (needsV (w.heap.size + 1) (w.heap.size + 1 + 1) m8)) := hb5.blk HBOX3.out (by omega)
          have HC5 : Hid (Blk w5 C 173 cs.toList) := hb5.blk HCOL3.out (by have := HC0.out; omega)
          have HB5 : Hid (Below w.heap.size w w5) := hb5.below HBQ3.out (by omega) HBQ3.out.size
          clear hp5 hb5 hov b0 b1 b2 hfr HLS HPM HIA
          go_wp2
          go_roundw
          case rel => exact ⟨c + 1, by omega, by go_num, HN5.out, HR5.out, HX5.out, HC5.out, HB5.out⟩
          case measure => simp [intOf]; omega
        · obtain rfl : c = 8 := by omega
          have HN6 : Hid (NSt wr (w.heap.size + 1) (w.heap.size + 1 + 1) w.heap.size (64 * (8 * (i + 1))) (needsK rows j (8 * (i + 1)))) := by
            show NSt _ _ _ _ _ _
            rw [show 8 * (i + 1) = o + 8 by have := HO.out; omega]; exact hst
          clear hst
          go_wp2
          go_roundw
          case rel => exact ⟨i + 1, by omega, by go_num, HN6.out, hres, hbox, hbq⟩
          case measure => simp [intOf]; omega
    · obtain rfl : i = rows.length := by omega
      have HN7 : Hid (NSt wr (w.heap.size + 1) (w.heap.size + 1 + 1) w.heap.size (64 * (8 * rows.length)) (needs rows j)) := by
        show NSt _ _ _ _ _ _
        rw [← needsK_all]; exact hst
      have b0 := hbox.cell_some (k := 0) (v := .slice (some ⟨w.heap.size + 1, 0, none⟩) m8 m8) rfl
      have b1 := hbox.cell_some (k := 1) (v := .map (some (w.heap.size + 1 + 1))) rfl
      have r0 := hres.cell_some (k := 0) (v := .slice none 0 0) rfl
      have r1 := hres.cell_some (k := 1) (v := .map none) rfl
      have f0 := hres.free 0
      have f1 := hres.free 1
      clear hst
      have HRS : Hid (Blk ((wr.setCell ⟨w.heap.size, 0, none⟩ (.slice (some ⟨w.heap.size + 1, 0, none⟩) m8 m8)).setCell ⟨w.heap.size, 1, none⟩ (.map (some (w.heap.size + 1 + 1)))) w.heap.size 167 (needsV (w.heap.size + 1) (w.heap.size + 1 + 1) (8 * rows.length))) :=
        ((hres.set 0 _).set 1 _).eq (by rw [← HM8.out]; rfl)
      have HNE : Hid (NSt ((wr.setCell ⟨w.heap.size, 0, none⟩ (.slice (some ⟨w.heap.size + 1, 0, none⟩) m8 m8)).setCell ⟨w.heap.size, 1, none⟩ (.map (some (w.heap.size + 1 + 1)))) (w.heap.size + 1) (w.heap.size + 1 + 1) w.heap.size (64 * (8 * rows.length)) (needs rows j)) := by
        have hkp : ∀ g, g ≠ w.heap.size → ((wr.setCell ⟨w.heap.size, 0, none⟩ (.slice (some ⟨w.heap.size + 1, 0, none⟩) m8 m8)).setCell ⟨w.heap.size, 1, none⟩ (.map (some (w.heap.size + 1 + 1)))).heap[g]? = wr.heap[g]? := fun g hg => by
          rw [Below.heap_setCell _ _ _ _ (by exact hg), Below.heap_setCell _ _ _ _ (by exact hg)]
        exact ⟨HN7.out.lists.keep (hkp _ (by omega)) (fun g us hg => hkp g (hg.type_ne hres (by decide))), HN7.out.pairs.block (hkp _ (by omega))⟩
      have HBE : Hid (Below w.heap.size w ((wr.setCell ⟨w.heap.size, 0, none⟩ (.slice (some ⟨w.heap.size + 1, 0, none⟩) m8 m8)).setCell ⟨w.heap.size, 1, none⟩ (.map (some (w.heap.size + 1 + 1))))) := (hbel.setCell (Nat.le_refl _) _).setCell (Nat.le_refl _) _
      have HSN : Hid ((Tryz.prog.info? 167).map (·.size) = some (needsV (w.heap.size + 1) (w.heap.size + 1 + 1) (8 * rows.length)).toArray.size) := by show _ = _; kernel_rfl
      go_wp2
      refine bodyPost_ret (v := .agg (needsV (w.heap.size + 1) (w.heap.size + 1 + 1) (8 * rows.length)).toArray) (results_cell_row (p := 4) (ty := 167) (by kernel_rfl) _ _ w.heap.size 167 _ (0, 0) _ rfl HRS.out Tryz.underlying167 rfl HSN.out) rfl ⟨_, _, rfl, HNE.out, by omega, by omega, HBE.out⟩
end Go.Proofs.YtokmllopbfmadaaGreatDoor.Plans

namespace Go.Proofs.YtokmllopbfmadaaGreatDoor.Plans
open Go.RowKit Mem

theorem step_append_blk {P : Program} {w : World} {ops : Array Oper} {o : Oper} {a : Act} {K : Act → World → Prop} {Q : Exit → Act → World → Prop} {E : Prop}
    (hgd : o.guard = none) (s x : Operand) (t : TypeId) (hop : o.op = Op.call { callee := Callee.builtin Builtin.append, args := #[s, x], argTypes := #[t, t] })
    (e : TypeId) (z : Value) (bytes : Nat) (ht : P.underlying t = some (.slice e)) (hinfo : (P.info? e).map (fun i => (i.zero, i.size, i.bytes)) = some (some z, 1, bytes))
    (g k cap : Nat) (cur : List Value) (hs : a.eval s = .slice (some ⟨g, 0, none⟩) k cap) (hg : Blk w g e cur) (ad : Addr) (c : Nat) (u : Value) (hx : a.eval x = .slice (some ad) 1 c) (hu : w.cell? ad = some u) (h1 : u.oneCell' = true) (hk : k < cap) (hcap : cur.length = cap)
    (hK : ∀ w', Blk w' g e (cur.set k u) → But g w w' → K (a.put o.dst (.slice (some ⟨g, 0, none⟩) (k + 1) cap)) w') :
    if Region.wanted o (yielded ops a.tmps) = true then Oper.wp P o a w K Q else E := by
  have hw : Region.wanted o (yielded ops a.tmps) = true := by simp [Region.wanted, hgd]
  rw [if_pos hw]
  obtain ⟨i0, hi, hz0, hz1, hz2⟩ := info_parts hinfo
  have hrun := run_append_blk (P := P) w t o.type e i0 ht hi hz1 g k cap cur hg ad c u hu h1 hk hcap
  have hb := hg.row (cur.set k u).toArray
  rw [List.toList_toArray] at hb
  have hbut : But g w (w.setRow g (cur.set k u).toArray) := (But.refl _ _).row _
  have := hK _ hb hbut
  unfold Oper.wp
  simp [execOp, hop, resolve, invoke, builtin, hs, hx, hrun, Result.andThen]
  exact this
/-- What a change of the needs leaves alone. -/
structure Turned (base : Nat) (w w' : World) : Prop where
  below : Below base w w'
  keep : ∀ g t us, Blk w g t us → t ≠ 3 → t ≠ 32 → w'.heap[g]? = w.heap[g]?
theorem Turned.refl (base : Nat) (w : World) : Turned base w w := ⟨Below.refl _ _, fun _ _ _ _ _ _ => rfl⟩
theorem Turned.blk {base : Nat} {w w' : World} {g : Nat} {t : TypeId} {us : List Value} (h : Turned base w w') (hg : Blk w g t us) (h1 : t ≠ 3) (h2 : t ≠ 32) : Blk w' g t us := by
  unfold Blk; rw [h.keep g t us hg h1 h2]; exact hg
theorem Turned.trans {base : Nat} {w w' w'' : World} (h : Turned base w w') (k : Turned base w' w'') : Turned base w w'' :=
  ⟨h.below.trans k.below, fun g t us hg h1 h2 => (k.keep g t us (h.blk hg h1 h2) h1 h2).trans (h.keep g t us hg h1 h2)⟩
theorem Turned.to {base : Nat} {w w' w'' : World} (h : Turned base w w') (hb : Below w'.heap.size w' w'') (hbase : base ≤ w'.heap.size) : Turned base w w'' :=
  h.trans ⟨hb.mono hbase, fun g _ _ hg _ _ => hb.block g hg.lt⟩
theorem Turned.map {base M n : Nat} {f : Nat → Nat → Int} {w w' w'' : World} (h : Turned base w w') (hM : PM w' M n f) (hb : But M w' w'') (hbase : base ≤ M) : Turned base w w'' :=
  h.trans ⟨hb.below (Below.refl _ _) hbase (Nat.le_trans hbase (Nat.le_of_lt hM.lt)), fun g _ _ hg _ _ => hb.rest g (hM.ne hg) hg.lt⟩
theorem Turned.row {base G : Nat} {vs : List Value} {t : TypeId} {w w' w'' : World} (h : Turned base w w') (hG : Blk w' G t vs) (ht : t = 3 ∨ t = 32) (hb : But G w' w'') (hbase : base ≤ G) : Turned base w w'' :=
  h.trans ⟨hb.below (Below.refl _ _) hbase (Nat.le_trans hbase (Nat.le_of_lt hG.lt)), fun g u us hg h1 h2 => hb.rest g (hg.type_ne hG (by rcases ht with rfl | rfl <;> assumption)) hg.lt⟩
/-- The first i lists have the helper in the pair's place. -/
def putK (L : List (List Nat)) (p : Nat × Nat) (h i : Nat) : List (List Nat) := putH (L.take i) p h ++ L.drop i
theorem putK_length (L : List (List Nat)) (p : Nat × Nat) (h i : Nat) : (putK L p h i).length = L.length := by simp [putK, putH]; omega
theorem putK_all (L : List (List Nat)) (p : Nat × Nat) (h : Nat) : putK L p h L.length = putH L p h := by simp [putK]
theorem putK_zero (L : List (List Nat)) (p : Nat × Nat) (h : Nat) : putK L p h 0 = L := by simp [putK, putH]
theorem putK_at (L : List (List Nat)) (p : Nat × Nat) (h i : Nat) (hi : i < L.length) : (putK L p h i).getD i [] = L.getD i [] := by
  unfold putK
  rw [List.getD_eq_getElem?_getD, List.getElem?_append_right (by rw [putH_length]; simp; omega), putH_length, List.getElem?_drop, List.getD_eq_getElem?_getD]
  congr 2
  simp; omega
theorem putK_next (L : List (List Nat)) (p : Nat × Nat) (h i : Nat) (hi : i < L.length) : (putK L p h i).set i (if both p.1 p.2 (L.getD i []) then rest2 p.1 p.2 (L.getD i []) ++ [h] else L.getD i []) = putK L p h (i + 1) := by
  have e1 : L.drop i = L[i] :: L.drop (i + 1) := (List.drop_eq_getElem_cons hi)
  have e2 : L.take (i + 1) = L.take i ++ [L[i]] := by rw [List.take_add_one, List.getElem?_eq_getElem hi]; rfl
  have e3 : L.getD i [] = L[i] := by simp [hi]
  have e4 : (putH (L.take i) p h).length = i := by rw [putH_length]; simp; omega
  unfold putK
  have e5 : putH (L.take i ++ [L[i]]) p h = putH (L.take i) p h ++ [if both p.1 p.2 L[i] then rest2 p.1 p.2 L[i] ++ [h] else L[i]] := by unfold putH; rw [List.map_append]; rfl
  rw [e1, e2, e3, e5, List.set_append_right _ _ (by omega), e4, Nat.sub_self, List.set_cons_zero, List.append_assoc]
  rfl
theorem set_same (L : List (List Nat)) (i : Nat) : L.set i (L.getD i []) = L := by
  apply List.ext_getElem?
  intro q
  by_cases e : i = q
  · subst e
    by_cases h : i < L.length
    · rw [List.getElem?_set_self h]; simp [h]
    · rw [List.getElem?_eq_none (by simp; omega), List.getElem?_eq_none (by omega)]
  · rw [List.getElem?_set_ne e]

theorem own_inv {w : World} {base : Nat} {v : Value} {l : List Nat} (h : w.ownsRow base 3 1 v l.length (intsV l)) (hne : l ≠ []) : ∃ g cap us, v = .slice (some ⟨g, 0, none⟩) l.length cap ∧ base ≤ g ∧ Blk w g 3 us ∧ us.length = cap ∧ l.length ≤ cap ∧ cap ≤ maxLen ∧ ∀ k, (h : k < l.length) → us[k]? = some (.int .i64 (l[k] : Nat)) := by
  rcases h.2 with ⟨_, h0⟩ | ⟨g, cap, cur, rfl, hg, hh, h1, h2, h3, h4⟩
  · exact absurd (List.eq_nil_of_length_eq_zero h0) hne
  · refine ⟨g, cap, cur.toList, rfl, hg, by unfold Blk; rw [hh], by simpa using h3, h1, h2, fun k hk => ?_⟩
    rw [Nat.mul_one] at h4
    have : (cur.toList.take l.length)[k]? = some (.int .i64 (l[k] : Nat)) := by rw [h4]; simp [intsV, hk]
    rw [List.getElem?_take_of_lt hk] at this
    exact this
theorem own_mk {w : World} {base g cap : Nat} {us : List Value} {l : List Nat} (hg : Blk w g 3 us) (hb : base ≤ g) (hl : us.length = cap) (h1 : l.length ≤ cap) (h2 : cap ≤ maxLen) (ht : us.take l.length = intsV l) : w.ownsRow base 3 1 (.slice (some ⟨g, 0, none⟩) l.length cap) l.length (intsV l) :=
  ⟨by simp [intsV], .inr ⟨g, cap, us.toArray, rfl, hb, hg, h1, h2, by simpa using hl, by simpa using ht⟩⟩

theorem rep_after {wr w1 w2 w3 : World} {B M base N' n1 g sc n i h : Nat} {Lk : List (List Nat)} {us us2 : List Value} {f1 : Nat → Nat → Int} {r : List Nat} (hs : NSt wr B M base N' Lk) (hi : i < Lk.length) (hv : wr.cell? ⟨B, i, none⟩ = some (.slice (some ⟨g, 0, none⟩) n sc)) (hg : Blk wr g 3 us) (hgb : base ≤ g) (hB : base ≤ B) (hM : base ≤ M)
    (hbt1 : But M wr w1) (hp1 : PM w1 M n1 f1) (hbt2 : But g w1 w2) (hbt3 : But g (w2.alloc (.cells #[.int .i64 h] 3)).drew w3) (hg3 : Blk w3 g 3 (us2.set r.length (.int .i64 h))) (hu2 : us2.length = sc) (hr : r.length + 1 ≤ sc) (hsc : sc ≤ maxLen) (ht2 : us2.take r.length = intsV r) :
    LS (w3.setCell ⟨B, i, none⟩ (.slice (some ⟨g, 0, none⟩) (r.length + 1) sc)) B base (Lk.set i (r ++ [h])) ∧ PM (w3.setCell ⟨B, i, none⟩ (.slice (some ⟨g, 0, none⟩) (r.length + 1) sc)) M n1 f1 ∧ Turned base wr (w3.setCell ⟨B, i, none⟩ (.slice (some ⟨g, 0, none⟩) (r.length + 1) sc)) ∧
      IntsAt (w3.setCell ⟨B, i, none⟩ (.slice (some ⟨g, 0, none⟩) (r.length + 1) sc)) (.slice (some ⟨g, 0, none⟩) (r.length + 1) sc) (r ++ [h]) ∧ (w3.setCell ⟨B, i, none⟩ (.slice (some ⟨g, 0, none⟩) (r.length + 1) sc)).cell? ⟨B, i, none⟩ = some (.slice (some ⟨g, 0, none⟩) (r.length + 1) sc) := by
  obtain ⟨vs, hvs, hBb, _⟩ := id hs.lists
  have hgB : B ≠ g := hBb.type_ne hg (by decide)
  have hBM : B ≠ M := hs.pairs.ne hBb
  have hgM : g ≠ M := hs.pairs.ne hg
  have hMlt := hs.pairs.lt
  have s1 := hbt1.size
  have s2 := hbt2.size
  have s3 := hbt3.size
  have s3' : w2.heap.size ≤ w3.heap.size := by simp at s3; omega
  have k3 : ∀ q, q ≠ M → q ≠ g → q < wr.heap.size → w3.heap[q]? = wr.heap[q]? := fun q h1 h2 h3 => by
    rw [hbt3.rest q h2 (by simp; omega)]
    have : (w2.alloc (.cells #[.int .i64 h] 3)).drew.heap[q]? = w2.heap[q]? := Below.heap_alloc _ _ _ (by omega)
    rw [this, hbt2.rest q h2 (by omega), hbt1.rest q h1 h3]
  have hM3 : w3.heap[M]? = w1.heap[M]? := by
    rw [hbt3.rest M (Ne.symm hgM) (by simp; omega)]
    have : (w2.alloc (.cells #[.int .i64 h] 3)).drew.heap[M]? = w2.heap[M]? := Below.heap_alloc _ _ _ (by omega)
    rw [this, hbt2.rest M (Ne.symm hgM) (by omega)]
  have hB3 : Blk w3 B 32 vs := by unfold Blk; rw [k3 B hBM hgB hBb.lt]; exact hBb
  have hown : w3.ownsRow base 3 1 (.slice (some ⟨g, 0, none⟩) (r.length + 1) sc) (r ++ [h]).length (intsV (r ++ [h])) := by
    have := own_mk (l := r ++ [h]) hg3 hgb (by rw [List.length_set]; exact hu2) (by simpa using hr) hsc (by
      rw [List.length_append, List.length_singleton, List.take_add_one, List.getElem?_set_self (by omega), List.take_set_of_le (Nat.le_refl _), ht2]
      simp [intsV])
    simpa using this
  have hset : ∀ q, q ≠ B → (w3.setCell ⟨B, i, none⟩ (.slice (some ⟨g, 0, none⟩) (r.length + 1) sc)).heap[q]? = w3.heap[q]? := fun q hq => Below.heap_setCell w3 _ _ q (by exact hq)
  have hown4 : (w3.setCell ⟨B, i, none⟩ (.slice (some ⟨g, 0, none⟩) (r.length + 1) sc)).ownsRow base 3 1 (.slice (some ⟨g, 0, none⟩) (r.length + 1) sc) (r ++ [h]).length (intsV (r ++ [h])) :=
    own_keep hown (fun q _ hq _ => by obtain rfl := Option.some.inj hq; exact hset _ (Ne.symm hgB))
  refine ⟨?_, hp1.block (by rw [hset M (Ne.symm hBM)]; exact hM3), ?_, IntsAt.of_owns hown4, ?_⟩
  · refine hs.lists.put hi hv (k3 B hBM hgB hBb.lt) (fun q us' hq hne => k3 q (hs.pairs.ne hq) (fun e => hne (by rw [e]; rfl)) hq.lt) hown (fun q hq => .inl hq)
  · have hb : Below base wr w3 := by
      refine (hbt1.below (Below.refl _ _) hM (by omega)).trans ((hbt2.below (Below.refl _ _) hgb (by omega)).trans ?_)
      exact (((Below.refl base w2).alloc (by omega) _).drew).trans (hbt3.below (Below.refl _ _) hgb (by simp; omega))
    refine ⟨hb.setCell hB _, fun q t us' hq h1 h2 => ?_⟩
    rw [hset q (hq.type_ne hBb h2), k3 q (hs.pairs.ne hq) (hq.type_ne hg h1) hq.lt]
  · have hb4 := hB3.set i (.slice (some ⟨g, 0, none⟩) (r.length + 1) sc)
    exact hb4.cell_some (by rw [List.getElem?_set_self (by omega)])

end Go.Proofs.YtokmllopbfmadaaGreatDoor.Plans
