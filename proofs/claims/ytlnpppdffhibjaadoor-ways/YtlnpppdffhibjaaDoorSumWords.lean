import Derived.Test.YtlnpppdffhibjaaDoorMem64
namespace Go.Proofs.YtlnpppdffhibjaaDoor.Planes
open Go.RowKit Mem FieldWalks Tab ByTab
open Gf (Bytes sumTo addTo)

def Words (l : List Nat) : Prop := ∀ x, x ∈ l → x < 18446744073709551616
theorem Words.at {l : List Nat} (h : Words l) (k : Nat) (hk : k < l.length) : l[k] < 18446744073709551616 := h _ (List.getElem_mem hk)
def waddTo (f : Nat) (acc p : List Nat) : List Nat := List.zipWith (fun a x => a ^^^ Gf.moved f x 8) acc p
/-- The sum of the first j pieces' words, each moved by its factor. -/
def wsumTo (row : List Nat) (ps : List (List Nat)) (L : Nat) : Nat → List Nat
  | 0 => List.replicate L 0
  | j + 1 => waddTo (row.getD j 0) (wsumTo row ps L j) (ps.getD j [])
theorem wsumTo_length (row : List Nat) (ps : List (List Nat)) (L : Nat) (hl : ∀ j, (h : j < ps.length) → ps[j].length = L) : ∀ j, j ≤ ps.length → (wsumTo row ps L j).length = L
  | 0, _ => by simp [wsumTo]
  | j + 1, h => by
    have ih := wsumTo_length row ps L hl j (by omega)
    have hj : (ps.getD j []).length = L := by simp [show j < ps.length by omega, hl j (by omega)]
    rw [wsumTo, waddTo, List.length_zipWith]; omega
theorem wsumTo_words (row : List Nat) (ps : List (List Nat)) (L : Nat) : ∀ j, Words (wsumTo row ps L j)
  | 0 => by intro x hx; simp [wsumTo] at hx; omega
  | j + 1 => by
    intro x hx
    simp only [wsumTo, waddTo, List.mem_iff_getElem, List.getElem_zipWith, List.length_zipWith] at hx
    obtain ⟨k, hk, rfl⟩ := hx
    exact Nat.xor_lt_two_pow (n := 64) ((wsumTo_words row ps L j).at k (by omega)) (Gf.moved_lt _ _ _)
theorem wsumTo_next (row : List Nat) (ps : List (List Nat)) (L j k : Nat) (hj : j < ps.length) (hjr : j < row.length) (hk : k < ps[j].length) (h1 : k < (wsumTo row ps L j).length) (h2 : k < (wsumTo row ps L (j + 1)).length) :
    (wsumTo row ps L (j + 1))[k] = (wsumTo row ps L j)[k] ^^^ Gf.moved row[j] ps[j][k] 8 := by
  simp only [wsumTo, waddTo, List.getElem_zipWith]
  have e1 : row.getD j 0 = row[j] := by simp [hjr]
  have e2 : ps.getD j [] = ps[j] := by simp [hj]
  simp only [e1, e2]
theorem mix_words (a b : List Nat) (k : Nat) : wordsV (mix a b k) = mix (wordsV a) (wordsV b) k := by simp [wordsV, mix, List.map_take, List.map_drop]

theorem wround_facts (row : List Nat) (ps : List (List Nat)) (L j k f : Nat) (w wq : World) (S : Nat) (ao : Option Addr) (hlt : j < ps.length) (hrow : ps.length ≤ row.length) (hl : ∀ j, (h : j < ps.length) → ps[j].length = L)
    (_hb1 : Bytes row) (hb2 : ∀ j, (h : j < ps.length) → Words ps[j]) (hf : row[j] = f)
    (hx : ps[j] = [] ∨ ∃ b off, ao = some ⟨b, off, none⟩ ∧ b < w.heap.size ∧ ∀ k, (h : k < ps[j].length) → w.cell? ⟨b, off + k, none⟩ = some (.int .u64 (ps[j][k] : Nat)))
    (hk : k < L) (hbq : Below w.heap.size w wq) (hb : Blk wq S 138 (wordsV (mix (wsumTo row ps L (j + 1)) (wsumTo row ps L j) k))) :
    ∃ o x b off, ao = some ⟨b, off, none⟩ ∧ x < 18446744073709551616 ∧ wq.cell? ⟨b, off + k, none⟩ = some (.int .u64 (x : Nat)) ∧ wq.cell? ⟨S, k, none⟩ = some (.int .u64 (o : Nat)) ∧
      (wordsV (mix (wsumTo row ps L (j + 1)) (wsumTo row ps L j) k)).set k (.int .u64 (bits .xor .u64 (o : Nat) (Gf.moved f x 8 : Nat))) = wordsV (mix (wsumTo row ps L (j + 1)) (wsumTo row ps L j) (k + 1)) := by
  have hlj := hl j hlt
  have l0 : (wsumTo row ps L j).length = L := wsumTo_length row ps L hl _ (by omega)
  have l1 : (wsumTo row ps L (j + 1)).length = L := wsumTo_length row ps L hl _ (by omega)
  have le : (wsumTo row ps L (j + 1)).length = (wsumTo row ps L j).length := by omega
  rcases hx with h | ⟨b, off, rfl, hblt, hc⟩
  · rw [h] at hlj; simp at hlj; omega
  · refine ⟨(wsumTo row ps L j)[k]'(by omega), ps[j][k]'(by omega), b, off, rfl, (hb2 j hlt).at k _, ?_, ?_, ?_⟩
    · rw [hbq.cell (p := ⟨b, off + k, none⟩) hblt]; exact hc k (by omega)
    · refine hb.cell_some ?_
      simp [wordsV, mix_at le (show k < (wsumTo row ps L j).length by omega)]
    · rw [← hf, u64_xor_nat _ _ ((wsumTo_words row ps L j).at k _) (Gf.moved_lt _ _ _), ← wsumTo_next row ps L j k hlt (by omega) (by omega) (by omega) (by omega), wordsV_set, mix_set le (by omega)]

set_option maxRecDepth 100000 in
set_option maxHeartbeats 1000000 in
theorem sumOfWords_any (row : List Nat) (ps : List (List Nat)) (L : Nat) (rv pv : Value) (w : World) (ht : Table w) (hr : BsAt w rv row) (hp : WRowsAt w pv ps)
    (hne : 0 < ps.length) (hn : ps.length ≤ 100) (hl : ∀ j, (h : j < ps.length) → ps[j].length = L) (hrow : ps.length ≤ row.length) (hb1 : Bytes row) (hb2 : ∀ j, (h : j < ps.length) → Words ps[j]) (hL : L ≤ 1000) :
    Calls Tryd.prog 95 #[rv, pv] w fun e w' => ∃ b, w.heap.size ≤ b ∧ e = .returned (.slice (some ⟨b, 0, none⟩) L L) ∧ Blk w' b 138 (wordsV (wsumTo row ps L ps.length)) ∧ Below w.heap.size w w' := by
  obtain ⟨rb, roff, rcap, rfl, hrlt, hrc⟩ := hr.pos (by omega)
  obtain ⟨pb, poff, pcap, rfl, hplt, hpc⟩ := hp.pos hne
  obtain ⟨u0, hu0, ao0, cap0, rfl, hx0⟩ := hpc 0 hne
  rw [hl 0 hne, Nat.add_zero] at hu0
  have hmk := fun w => make_words L (by omega) w
  have HPC : Hid (∀ k, (h : k < ps.length) → ∃ u, w.cell? ⟨pb, poff + k, none⟩ = some u ∧ WsAt w u ps[k]) := hpc
  have HRC : Hid (∀ k, (h : k < row.length) → w.cell? ⟨rb, roff + k, none⟩ = some (.int .u8 (row[k] : Nat))) := hrc
  have HL : Hid (∀ j, (h : j < ps.length) → ps[j].length = L) := hl
  clear hpc hrc hl hx0
  go_enter Tryd.func95, Tryd.ntmps95
  go_wp2
  clear hu0
  go_loopw [18] (fun i wr => ∃ j : Nat, j ≤ ps.length ∧ i = .int .i64 j ∧ Blk wr w.heap.size 138 (wordsV (wsumTo row ps L j)) ∧ Below w.heap.size w wr) (fun i _ => ps.length - (intOf i).toNat)
  case atStart => exact ⟨0, Nat.zero_le _, rfl, made_words w L, (Below.refl _ _).alloc (Nat.le_refl _) _⟩
  case round =>
    obtain ⟨j, hj, rfl, hb, hbel⟩ := hrel
    by_cases hlt : j < ps.length
    · obtain ⟨u, hu, hbs⟩ := HPC.out j hlt
      have hrj := HRC.out j (by omega)
      have hbs' := hbs
      obtain ⟨ao, cap, rfl, hx⟩ := hbs'
      rw [HL.out j hlt] at hu
      rw [← hbel.cell (p := ⟨pb, poff + j, none⟩) hplt] at hu
      rw [← hbel.cell (p := ⟨rb, roff + j, none⟩) hrlt] at hrj
      have hf : row[j] < 256 := hb1.at j (by omega)
      generalize hfe : row[j] = f at hrj hf
      have HFE : Hid (row[j] = f) := hfe
      have HX : Hid (ps[j] = [] ∨ ∃ b off, ao = some ⟨b, off, none⟩ ∧ b < w.heap.size ∧ ∀ k, (h : k < ps[j].length) → w.cell? ⟨b, off + k, none⟩ = some (.int .u64 (ps[j][k] : Nat))) := hx
      have HB : Hid (Blk wr w.heap.size 138 (wordsV (wsumTo row ps L j))) := hb
      clear hfe hx hbs hb
      go_wp2_with fail
      refine (planeMoves_any f hf _ (table_to ht hbel)).mono ?_
      rintro e w1 ⟨rfl, hw1⟩
      have HS : Hid ((Tryd.prog.info? 139).map (·.size) = some (wordsV (movesOf f)).toArray.size) := by show _ = _; rw [infoMoves]; simp [movesOf]
      go_wp2_with (refine wpList_store_row rfl 139 _ _ rfl w1.heap.size _ rfl rfl 139 _ (heap_alloc_new w1 _) HS.out (by simp [movesOf]) (wordsV_one _) ?_)
      have hsz1 := hbel.size
      have hsz2 := hw1.size
      have hS := HB.out.lt
      go_loopw [30] (fun i wq => ∃ k : Nat, k ≤ L ∧ i = .int .i64 k ∧ Blk wq w.heap.size 138 (wordsV (mix (wsumTo row ps L (j + 1)) (wsumTo row ps L j) k)) ∧ Blk wq w1.heap.size 139 (wordsV (movesOf f)) ∧ Below w.heap.size w wq) (fun i _ => L - (intOf i).toNat)
      case atStart =>
        refine ⟨0, Nat.zero_le _, rfl, ?_, ?_, ?_⟩
        · rw [mix_zero]; exact ((HB.out.to hw1).alloc _).row_other (by omega) _
        · exact (Blk.new w1 _ _).row _
        · exact below_row (((hbel.trans (hw1.mono hsz1))).alloc (by omega) _) (by omega) _
      case round =>
        obtain ⟨k, hk, rfl, hb, hT, hbq⟩ := hrel
        by_cases hklt : k < L
        · obtain ⟨o, x, b, off, rfl, hxb, hcx, hcs, hset⟩ := wround_facts row ps L j k f w wr w.heap.size ao hlt hrow HL.out hb1 hb2 HFE.out HX.out hklt hbq hb
          have hfs := hb.free k
          have HXB : Hid (x < 18446744073709551616) := hxb
          clear hxb
          have HSET : Hid _ := hset
          have HBQ : Hid _ := hb
          have HTQ : Hid _ := hT
          have hSlt := hb.lt
          have hTlt := hT.lt
          have hne : w1.heap.size ≠ w.heap.size := by omega
          have hr0 : wr.drew.rangeAt w1.heap.size 0 (wordsV (movesOf f)) := range_blk hT
          have hsz : (Tryd.prog.info? 139).map (·.size) = some (wordsV (movesOf f)).length := by rw [infoMoves]; simp [movesOf]
          have HR0 : Hid _ := hr0
          have HSZ : Hid _ := hsz
          clear hset hb hT hu hrj HX hr0 hsz
          go_wp2_with fail
          refine wp_region_held (S := fun wx => wx.rangeAt w1.heap.size 0 (wordsV (movesOf f))) rfl ?_
          refine wpAnyH_take (i := 0) (v := .slice (some ⟨w.heap.size, 0, none⟩) L L) rfl (by kernel_rfl) (by kernel_rfl) (by kernel_rfl) (fun _ _ _ h => h) (Or.inl ⟨by rfl, fun w _ => by go_simp⟩) HR0.out ?_
          refine wpAnyH_take (i := 1) (v := .int .i64 k) rfl (by kernel_rfl) (by kernel_rfl) (by kernel_rfl) (fun _ _ _ h => h) (Or.inl ⟨by rfl, fun w _ => by go_simp⟩) HR0.out ?_
          refine wpAnyH_take (i := 4) (v := .agg (wordsV (movesOf f)).toArray) rfl (by kernel_rfl) (by kernel_rfl) (by kernel_rfl) (fun _ _ _ h => h) (yieldsIf_load_mid (by rfl) _ _ rfl _ _ rfl _ _ (fun w h => h) Tryd.underlying139 rfl HSZ.out) HR0.out ?_
          refine wpAnyH_take (i := 2) (v := .pointer (some ⟨w.heap.size, k, none⟩)) rfl (by kernel_rfl) (by kernel_rfl) (by kernel_rfl) (fun _ _ _ h => h) (Or.inl ⟨by rfl, fun w _ => by go_simp⟩) HR0.out ?_
          refine wpAnyH_take (i := 5) (v := .int .u64 x) rfl (by kernel_rfl) (by kernel_rfl) (by kernel_rfl) (fun _ _ _ h => h) (Or.inl ⟨by rfl, fun w _ => by go_simp⟩) HR0.out ?_
          simp only [Act.put, List.setIfInBounds_toArray]
          refine wpAnyH_ready (rs := [3, 6]) (by kernel_rfl) (by simp) ?_
          refine AllReadyH.cons rfl (fun K hK => ?_) (AllReadyH.cons rfl (fun K hK => ?_) AllReadyH.nil)
          · go_simp
            refine hK.out _ _ HR0.out (fun _ => ?_)
            clear hK K
            refine wpAnyH_ready (rs := [6]) (by kernel_rfl) (by simp) ?_
            refine AllReadyH.cons rfl (fun K hK => ?_) AllReadyH.nil
            go_simp
            refine (movePlanes_any f x HXB.out _).mono ?_
            rintro e w2 ⟨rfl, hw2⟩
            have c3 := (hw2.cell (p := ⟨w.heap.size, k, none⟩) (by exact hSlt)).trans hcs
            have f3 := (hw2.frozen (p := ⟨w.heap.size, k, none⟩) (by exact hSlt)).trans hfs
            have HR2 : Hid _ := range_to HR0.out hw2 hTlt
            dsimp only
            refine hK.out _ _ HR2.out (fun _ => ?_)
            clear hK K
            refine wpAnyH_take (i := 7) (v := .int .u64 (bits .xor .u64 (o : Nat) (Gf.moved f x 8 : Nat))) rfl (by kernel_rfl) (by kernel_rfl) (by kernel_rfl) (fun _ _ _ h => h) (Or.inl ⟨by rfl, fun w _ => by go_simp⟩) HR2.out ?_
            refine wpAnyH_take (i := 8) (v := .pointer (some ⟨w.heap.size, k, none⟩)) rfl (by kernel_rfl) (by kernel_rfl) (by kernel_rfl) (fun _ _ _ h => h) (Or.inl ⟨by rfl, fun w _ => by go_simp⟩) HR2.out ?_
            simp only [Act.put, List.setIfInBounds_toArray]
            refine wpAnyH_ready (rs := [9]) (by kernel_rfl) (by simp) ?_
            refine AllReadyH.cons rfl (fun K hK => ?_) AllReadyH.nil
            go_simp
            refine hK.out _ _ (range_set HR2.out hne _) (fun _ => ?_)
            clear hK K
            refine wpAnyH_done (by kernel_rfl) ?_ _
            go_wp2
            go_roundw
            case rel =>
              refine ⟨k + 1, by omega, by go_num, ?_, ?_, ?_⟩
              · exact ((Blk.below (w := wr.drew) HBQ.out hw2 (by exact hSlt)).set k _).eq HSET.out
              · exact (Blk.below (w := wr.drew) HTQ.out hw2 (by exact hTlt)).other hne _
              · exact (hbq.drew.trans (hw2.mono (by show _ ≤ wr.heap.size; omega))).setCell (Nat.le_refl _) _
            case measure => simp [intOf]; omega
          · go_simp
            refine (movePlanes_any f x HXB.out _).mono ?_
            rintro e w2 ⟨rfl, hw2⟩
            have c3 := (hw2.cell (p := ⟨w.heap.size, k, none⟩) (by exact hSlt)).trans hcs
            have f3 := (hw2.frozen (p := ⟨w.heap.size, k, none⟩) (by exact hSlt)).trans hfs
            have HR2 : Hid _ := range_to HR0.out hw2 hTlt
            dsimp only
            refine hK.out _ _ HR2.out (fun _ => ?_)
            clear hK K
            refine wpAnyH_ready (rs := [3]) (by kernel_rfl) (by simp) ?_
            refine AllReadyH.cons rfl (fun K hK => ?_) AllReadyH.nil
            go_simp
            refine hK.out _ _ HR2.out (fun _ => ?_)
            clear hK K
            refine wpAnyH_take (i := 7) (v := .int .u64 (bits .xor .u64 (o : Nat) (Gf.moved f x 8 : Nat))) rfl (by kernel_rfl) (by kernel_rfl) (by kernel_rfl) (fun _ _ _ h => h) (Or.inl ⟨by rfl, fun w _ => by go_simp⟩) HR2.out ?_
            refine wpAnyH_take (i := 8) (v := .pointer (some ⟨w.heap.size, k, none⟩)) rfl (by kernel_rfl) (by kernel_rfl) (by kernel_rfl) (fun _ _ _ h => h) (Or.inl ⟨by rfl, fun w _ => by go_simp⟩) HR2.out ?_
            simp only [Act.put, List.setIfInBounds_toArray]
            refine wpAnyH_ready (rs := [9]) (by kernel_rfl) (by simp) ?_
            refine AllReadyH.cons rfl (fun K hK => ?_) AllReadyH.nil
            go_simp
            refine hK.out _ _ (range_set HR2.out hne _) (fun _ => ?_)
            clear hK K
            refine wpAnyH_done (by kernel_rfl) ?_ _
            go_wp2
            go_roundw
            case rel =>
              refine ⟨k + 1, by omega, by go_num, ?_, ?_, ?_⟩
              · exact ((Blk.below (w := wr.drew) HBQ.out hw2 (by exact hSlt)).set k _).eq HSET.out
              · exact (Blk.below (w := wr.drew) HTQ.out hw2 (by exact hTlt)).other hne _
              · exact (hbq.drew.trans (hw2.mono (by show _ ≤ wr.heap.size; omega))).setCell (Nat.le_refl _) _
            case measure => simp [intOf]; omega
        · obtain rfl : k = L := by omega
          go_wp2
          go_roundw
          case rel =>
            refine ⟨j + 1, by omega, by go_num, ?_, hbq⟩
            refine hb.eq ?_
            have l0 : (wsumTo row ps k j).length = k := wsumTo_length row ps k HL.out _ (by omega)
            have l1 : (wsumTo row ps k (j + 1)).length = k := wsumTo_length row ps k HL.out _ (by omega)
            have e := mix_all (show (wsumTo row ps k (j + 1)).length = (wsumTo row ps k j).length by omega)
            rw [l0] at e
            rw [e]
          case measure => simp [intOf]; omega
    · obtain rfl : j = ps.length := by omega
      go_wp2
      go_ret
      exact ⟨w.heap.size, Nat.le_refl _, rfl, hb, hbel⟩
end Go.Proofs.YtlnpppdffhibjaaDoor.Planes
