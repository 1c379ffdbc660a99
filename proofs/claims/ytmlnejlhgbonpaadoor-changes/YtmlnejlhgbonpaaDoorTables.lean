import Derived.Test.YtmlnejlhgbonpaaDoorTab
import Derived.Test.YtmlnejlhgbonpaaDoorSum
import Derived.Deep.OwnRows
import Derived.BigRegion
import Derived.Deep.RegionHeld3
namespace Go.Proofs.YtmlnejlhgbonpaaDoor.ByTab
open Go.RowKit Mem FieldWalks Tab
open Gf (Bytes sumTo addTo)

theorem infoByte : (Tryd.prog.info? 5).map (fun i => (i.zero, i.size, i.bytes)) = some (some (.int .u8 0), 1, 1) := by kernel_rfl
theorem make_bytes (n : Nat) (hn : n ≤ 100000) (w : World) :
    (Instr.makeSlice 71 (.int .i64 (n : Int)) (.int .i64 (n : Int))).run Tryd.prog w = .ok (.slice (some ⟨w.heap.size, 0, none⟩) n n) (w.alloc (.cells (madeCells #[.int .u8 0] n) 5)) :=
  run_make_row' 71 5 (.int .u8 0) 1 Tryd.underlying71 infoByte rfl .i64 .i64 n (by omega) (by omega) w
theorem made_bytes (w : World) (n : Nat) : Blk (w.alloc (.cells (madeCells #[.int .u8 0] n) 5)) w.heap.size 5 (bytesV (List.replicate n 0)) := by
  refine (Blk.new w _ _).eq ?_
  rw [toList_madeCells_one]; simp [bytesV]

theorem load_tab (f T : Nat) (wq : World) (hT : Blk wq T 175 (bytesV (tab f))) :
    (Instr.loadAt 175 (.pointer (some ⟨T, 0, none⟩))).run Tryd.prog wq.drew = .ok (.agg (bytesV (tab f)).toArray) wq.drew :=
  run_loadAt_mid _ _ _ _ _ _ (fun i v hv => by rw [Nat.zero_add]; exact hT.cell_some hv) Tryd.underlying175 rfl (by rw [infoTab]; simp [tab, low, high])

theorem range_to {w w' : World} {T : Nat} {cs : List Value} (h : w.rangeAt T 0 cs) (hb : Below w.heap.size w w') (hT : T < w.heap.size) : w'.rangeAt T 0 cs := fun i v hv => by
  rw [hb.cell (p := ⟨T, 0 + i, none⟩) hT]; exact h i v hv
theorem range_set {w : World} {T : Nat} {cs : List Value} (h : w.rangeAt T 0 cs) {a : Addr} (ha : T ≠ a.block) (u : Value) : (w.setCell a u).rangeAt T 0 cs := fun i v hv => by
  rw [World.cell?_of_block (w := w) (Below.heap_setCell w a u T ha)]; exact h i v hv
theorem range_blk {w : World} {T : Nat} {t : TypeId} {cs : List Value} (h : Blk w T t cs) : w.rangeAt T 0 cs := fun i v hv => by rw [Nat.zero_add]; exact h.cell_some hv

theorem round_facts (row : List Nat) (ps : List (List Nat)) (L j k f : Nat) (w wq : World) (S : Nat) (ao : Option Addr) (hlt : j < ps.length) (hrow : ps.length ≤ row.length) (hl : ∀ j, (h : j < ps.length) → ps[j].length = L)
    (hb1 : Bytes row) (hb2 : ∀ j, (h : j < ps.length) → Bytes ps[j]) (hf : row[j] = f)
    (hx : ps[j] = [] ∨ ∃ b off, ao = some ⟨b, off, none⟩ ∧ b < w.heap.size ∧ ∀ k, (h : k < ps[j].length) → w.cell? ⟨b, off + k, none⟩ = some (.int .u8 (ps[j][k] : Nat)))
    (hk : k < L) (hbq : Below w.heap.size w wq) (hb : Blk wq S 5 (bytesV (mix (sumTo row ps L (j + 1)) (sumTo row ps L j) k))) :
    ∃ o x b off, ao = some ⟨b, off, none⟩ ∧ o < 256 ∧ x < 256 ∧ wq.cell? ⟨b, off + k, none⟩ = some (.int .u8 (x : Nat)) ∧ wq.cell? ⟨S, k, none⟩ = some (.int .u8 (o : Nat)) ∧
      (bytesV (mix (sumTo row ps L (j + 1)) (sumTo row ps L j) k)).set k (.int .u8 (bits .xor .u8 (o : Nat) (Gf.times f x : Nat))) = bytesV (mix (sumTo row ps L (j + 1)) (sumTo row ps L j) (k + 1)) := by
  have hlj := hl j hlt
  have l0 : (sumTo row ps L j).length = L := Gf.sumTo_length row ps L hl _ (by omega)
  have l1 : (sumTo row ps L (j + 1)).length = L := Gf.sumTo_length row ps L hl _ (by omega)
  have le : (sumTo row ps L (j + 1)).length = (sumTo row ps L j).length := by omega
  rcases hx with h | ⟨b, off, rfl, hblt, hc⟩
  · rw [h] at hlj; simp at hlj; omega
  · refine ⟨(sumTo row ps L j)[k]'(by omega), ps[j][k]'(by omega), b, off, rfl, (Gf.sumTo_bytes row ps L hb1 j).at k _, (hb2 j hlt).at k _, ?_, ?_, ?_⟩
    · rw [hbq.cell (p := ⟨b, off + k, none⟩) hblt]; exact hc k (by omega)
    · refine hb.cell_some ?_
      simp [bytesV, mix_at le (show k < (sumTo row ps L j).length by omega)]
    · have hfb : row[j] < 256 := hb1.at j (by omega)
      rw [← hf, u8_xor_nat _ _ ((Gf.sumTo_bytes row ps L hb1 j).at k _) (Gf.times_lt _ _ hfb), ← Gf.sumTo_next row ps L j k hlt (by omega) (by omega) (by omega) (by omega), bytesV_set, mix_set le (by omega)]

set_option maxRecDepth 100000 in
set_option maxHeartbeats 1000000 in
theorem sumByTables_any (row : List Nat) (ps : List (List Nat)) (L : Nat) (rv pv : Value) (w : World) (ht : Table w) (hr : BsAt w rv row) (hp : RowsAt w pv ps)
    (hne : 0 < ps.length) (hn : ps.length ≤ 100) (hl : ∀ j, (h : j < ps.length) → ps[j].length = L) (hrow : ps.length ≤ row.length) (hb1 : Bytes row) (hb2 : ∀ j, (h : j < ps.length) → Bytes ps[j]) (hL : L ≤ 1000) :
    Calls Tryd.prog 121 #[rv, pv] w fun e w' => ∃ b, w.heap.size ≤ b ∧ e = .returned (.slice (some ⟨b, 0, none⟩) L L) ∧ Blk w' b 5 (bytesV (sumTo row ps L ps.length)) ∧ Below w.heap.size w w' := by
  obtain ⟨rb, roff, rcap, rfl, hrlt, hrc⟩ := hr.pos (by omega)
  obtain ⟨pb, poff, pcap, rfl, hplt, hpc⟩ := hp.pos hne
  obtain ⟨u0, hu0, ao0, cap0, rfl, hx0⟩ := hpc 0 hne
  rw [hl 0 hne, Nat.add_zero] at hu0
  have hmk := fun w => make_bytes L (by omega) w
  have HPC : Hid (∀ k, (h : k < ps.length) → ∃ u, w.cell? ⟨pb, poff + k, none⟩ = some u ∧ BsAt w u ps[k]) := hpc
  have HRC : Hid (∀ k, (h : k < row.length) → w.cell? ⟨rb, roff + k, none⟩ = some (.int .u8 (row[k] : Nat))) := hrc
  have HL : Hid (∀ j, (h : j < ps.length) → ps[j].length = L) := hl
  clear hpc hrc hl hx0
  go_enter Tryd.func121, Tryd.ntmps121
  go_wp2
  clear hu0
  go_loopw [18] (fun i wr => ∃ j : Nat, j ≤ ps.length ∧ i = .int .i64 j ∧ Blk wr w.heap.size 5 (bytesV (sumTo row ps L j)) ∧ Below w.heap.size w wr) (fun i _ => ps.length - (intOf i).toNat)
  case atStart => exact ⟨0, Nat.zero_le _, rfl, made_bytes w L, (Below.refl _ _).alloc (Nat.le_refl _) _⟩
  case round =>
    obtain ⟨j, hj, rfl, hb, hbel⟩ := hrel
    by_cases hlt : j < ps.length
    · obtain ⟨u, hu, hbs⟩ := HPC.out j hlt
      have hrj := HRC.out j (by omega)
      have hbs' := hbs
      obtain ⟨ao, cap, rfl, hx⟩ := hbs'
      rw [HL.out j hlt] at hu
      rw [← hbel.cell (p := ⟨pb, poff + j, none⟩) hplt] at hu
      rw [← hbel.cell (p := ⟨rb, roff + j, none⟩) hrlt] at hrj
      have hf : row[j] < 256 := hb1.at j (by omega)
      generalize hfe : row[j] = f at hrj hf
      have HFE : Hid (row[j] = f) := hfe
      have HX : Hid (ps[j] = [] ∨ ∃ b off, ao = some ⟨b, off, none⟩ ∧ b < w.heap.size ∧ ∀ k, (h : k < ps[j].length) → w.cell? ⟨b, off + k, none⟩ = some (.int .u8 (ps[j][k] : Nat))) := hx
      have HB : Hid (Blk wr w.heap.size 5 (bytesV (sumTo row ps L j))) := hb
      clear hfe hx hbs hb
      go_wp2_with fail
      refine (productsOf_any f hf _ (table_to ht hbel)).mono ?_
      rintro e w1 ⟨rfl, hw1⟩
      have HS : Hid ((Tryd.prog.info? 175).map (·.size) = some (bytesV (tab f)).toArray.size) := by show _ = _; rw [infoTab]; simp [tab, low, high]
      go_wp2_with (refine wpList_store_row rfl 175 _ _ rfl w1.heap.size _ rfl rfl 175 _ (heap_alloc_new w1 _) HS.out (by simp [tab, low, high]) (bytesV_one _) ?_)
      have hsz1 := hbel.size
      have hsz2 := hw1.size
      have hS := HB.out.lt
      go_loopw [30] (fun i wq => ∃ k : Nat, k ≤ L ∧ i = .int .i64 k ∧ Blk wq w.heap.size 5 (bytesV (mix (sumTo row ps L (j + 1)) (sumTo row ps L j) k)) ∧ Blk wq w1.heap.size 175 (bytesV (tab f)) ∧ Below w.heap.size w wq) (fun i _ => L - (intOf i).toNat)
      case atStart =>
        refine ⟨0, Nat.zero_le _, rfl, ?_, ?_, ?_⟩
        · rw [mix_zero]; exact ((HB.out.to hw1).alloc _).row_other (by omega) _
        · exact (Blk.new w1 _ _).row _
        · exact below_row (((hbel.trans (hw1.mono hsz1))).alloc (by omega) _) (by omega) _
      case round =>
        obtain ⟨k, hk, rfl, hb, hT, hbq⟩ := hrel
        by_cases hklt : k < L
        · obtain ⟨o, x, b, off, rfl, ho, hxb, hcx, hcs, hset⟩ := round_facts row ps L j k f w wr w.heap.size ao hlt hrow HL.out hb1 hb2 HFE.out HX.out hklt hbq hb
          have hfs := hb.free k
          have HSET : Hid _ := hset
          have HBQ : Hid _ := hb
          have HTQ : Hid _ := hT
          have hSlt := hb.lt
          have hTlt := hT.lt
          have hne : w1.heap.size ≠ w.heap.size := by omega
          have hr0 : wr.drew.rangeAt w1.heap.size 0 (bytesV (tab f)) := range_blk hT
          have hsz : (Tryd.prog.info? 175).map (·.size) = some (bytesV (tab f)).length := by rw [infoTab]; simp [tab, low, high]
          have HR0 : Hid _ := hr0
          have HSZ : Hid _ := hsz
          clear hset hb hT hu hrj HX hr0 hsz
          go_wp2_with fail
          refine wp_region_held (S := fun wx => wx.rangeAt w1.heap.size 0 (bytesV (tab f))) rfl ?_
          refine wpAnyH_take (i := 0) (v := .slice (some ⟨w.heap.size, 0, none⟩) L L) rfl (by kernel_rfl) (by kernel_rfl) (by kernel_rfl) (fun _ _ _ h => h) (Or.inl ⟨by rfl, fun w _ => by go_simp⟩) HR0.out ?_
          refine wpAnyH_take (i := 1) (v := .int .i64 k) rfl (by kernel_rfl) (by kernel_rfl) (by kernel_rfl) (fun _ _ _ h => h) (Or.inl ⟨by rfl, fun w _ => by go_simp⟩) HR0.out ?_
          refine wpAnyH_take (i := 4) (v := .agg (bytesV (tab f)).toArray) rfl (by kernel_rfl) (by kernel_rfl) (by kernel_rfl) (fun _ _ _ h => h) (yieldsIf_load_mid (by rfl) _ _ rfl _ _ rfl _ _ (fun w h => h) Tryd.underlying175 rfl HSZ.out) HR0.out ?_
          refine wpAnyH_take (i := 2) (v := .pointer (some ⟨w.heap.size, k, none⟩)) rfl (by kernel_rfl) (by kernel_rfl) (by kernel_rfl) (fun _ _ _ h => h) (Or.inl ⟨by rfl, fun w _ => by go_simp⟩) HR0.out ?_
          refine wpAnyH_take (i := 5) (v := .int .u8 x) rfl (by kernel_rfl) (by kernel_rfl) (by kernel_rfl) (fun _ _ _ h => h) (Or.inl ⟨by rfl, fun w _ => by go_simp⟩) HR0.out ?_
          simp only [Act.put, List.setIfInBounds_toArray]
          refine wpAnyH_ready (rs := [3, 6]) (by kernel_rfl) (by simp) ?_
          refine AllReadyH.cons rfl (fun K hK => ?_) (AllReadyH.cons rfl (fun K hK => ?_) AllReadyH.nil)
          · go_simp
            refine hK.out _ _ HR0.out (fun _ => ?_)
            clear hK K
            refine wpAnyH_ready (rs := [6]) (by kernel_rfl) (by simp) ?_
            refine AllReadyH.cons rfl (fun K hK => ?_) AllReadyH.nil
            go_simp
            refine (with_any f x hf hxb _).mono ?_
            rintro e w2 ⟨rfl, hw2⟩
            have c3 := (hw2.cell (p := ⟨w.heap.size, k, none⟩) (by exact hSlt)).trans hcs
            have f3 := (hw2.frozen (p := ⟨w.heap.size, k, none⟩) (by exact hSlt)).trans hfs
            have HR2 : Hid _ := range_to HR0.out hw2 hTlt
            dsimp only
            refine hK.out _ _ HR2.out (fun _ => ?_)
            clear hK K
            refine wpAnyH_take (i := 7) (v := .int .u8 (bits .xor .u8 (o : Nat) (Gf.times f x : Nat))) rfl (by kernel_rfl) (by kernel_rfl) (by kernel_rfl) (fun _ _ _ h => h) (Or.inl ⟨by rfl, fun w _ => by go_simp⟩) HR2.out ?_
            refine wpAnyH_take (i := 8) (v := .pointer (some ⟨w.heap.size, k, none⟩)) rfl (by kernel_rfl) (by kernel_rfl) (by kernel_rfl) (fun _ _ _ h => h) (Or.inl ⟨by rfl, fun w _ => by go_simp⟩) HR2.out ?_
            simp only [Act.put, List.setIfInBounds_toArray]
            refine wpAnyH_ready (rs := [9]) (by kernel_rfl) (by simp) ?_
            refine AllReadyH.cons rfl (fun K hK => ?_) AllReadyH.nil
            go_simp
            refine hK.out _ _ (range_set HR2.out hne _) (fun _ => ?_)
            clear hK K
            refine wpAnyH_done (by kernel_rfl) ?_ _
            go_wp2
            go_roundw
            case rel =>
              refine ⟨k + 1, by omega, by go_num, ?_, ?_, ?_⟩
              · exact ((Blk.below (w := wr.drew) HBQ.out hw2 (by exact hSlt)).set k _).eq HSET.out
              · exact (Blk.below (w := wr.drew) HTQ.out hw2 (by exact hTlt)).other hne _
              · exact (hbq.drew.trans (hw2.mono (by show _ ≤ wr.heap.size; omega))).setCell (Nat.le_refl _) _
            case measure => simp [intOf]; omega
          · go_simp
            refine (with_any f x hf hxb _).mono ?_
            rintro e w2 ⟨rfl, hw2⟩
            have c3 := (hw2.cell (p := ⟨w.heap.size, k, none⟩) (by exact hSlt)).trans hcs
            have f3 := (hw2.frozen (p := ⟨w.heap.size, k, none⟩) (by exact hSlt)).trans hfs
            have HR2 : Hid _ := range_to HR0.out hw2 hTlt
            dsimp only
            refine hK.out _ _ HR2.out (fun _ => ?_)
            clear hK K
            refine wpAnyH_ready (rs := [3]) (by kernel_rfl) (by simp) ?_
            refine AllReadyH.cons rfl (fun K hK => ?_) AllReadyH.nil
            go_simp
            refine hK.out _ _ HR2.out (fun _ => ?_)
            clear hK K
            refine wpAnyH_take (i := 7) (v := .int .u8 (bits .xor .u8 (o : Nat) (Gf.times f x : Nat))) rfl (by kernel_rfl) (by kernel_rfl) (by kernel_rfl) (fun _ _ _ h => h) (Or.inl ⟨by rfl, fun w _ => by go_simp⟩) HR2.out ?_
            refine wpAnyH_take (i := 8) (v := .pointer (some ⟨w.heap.size, k, none⟩)) rfl (by kernel_rfl) (by kernel_rfl) (by kernel_rfl) (fun _ _ _ h => h) (Or.inl ⟨by rfl, fun w _ => by go_simp⟩) HR2.out ?_
            simp only [Act.put, List.setIfInBounds_toArray]
            refine wpAnyH_ready (rs := [9]) (by kernel_rfl) (by simp) ?_
            refine AllReadyH.cons rfl (fun K hK => ?_) AllReadyH.nil
            go_simp
            refine hK.out _ _ (range_set HR2.out hne _) (fun _ => ?_)
            clear hK K
            refine wpAnyH_done (by kernel_rfl) ?_ _
            go_wp2
            go_roundw
            case rel =>
              refine ⟨k + 1, by omega, by go_num, ?_, ?_, ?_⟩
              · exact ((Blk.below (w := wr.drew) HBQ.out hw2 (by exact hSlt)).set k _).eq HSET.out
              · exact (Blk.below (w := wr.drew) HTQ.out hw2 (by exact hTlt)).other hne _
              · exact (hbq.drew.trans (hw2.mono (by show _ ≤ wr.heap.size; omega))).setCell (Nat.le_refl _) _
            case measure => simp [intOf]; omega
        · obtain rfl : k = L := by omega
          go_wp2
          go_roundw
          case rel =>
            refine ⟨j + 1, by omega, by go_num, ?_, hbq⟩
            refine hb.eq ?_
            have l0 : (sumTo row ps k j).length = k := Gf.sumTo_length row ps k HL.out _ (by omega)
            have l1 : (sumTo row ps k (j + 1)).length = k := Gf.sumTo_length row ps k HL.out _ (by omega)
            have e := mix_all (show (sumTo row ps k (j + 1)).length = (sumTo row ps k j).length by omega)
            rw [l0] at e
            rw [e]
          case measure => simp [intOf]; omega
    · obtain rfl : j = ps.length := by omega
      go_wp2
      go_ret
      exact ⟨w.heap.size, Nat.le_refl _, rfl, hb, hbel⟩
end Go.Proofs.YtmlnejlhgbonpaaDoor.ByTab
