import Derived.Deep.OwnRows
import Derived.BigRegion
import Derived.Deep.RegionHeld3
import Derived.Test.YtokmllopbfmadaaGreatDoorGField
import Derived.Test.YtokmllopbfmadaaGreatDoorGPlanRun
namespace Go.Proofs.YtokmllopbfmadaaGreatDoor.ByTab
open Go.RowKit Mem FieldWalks Tab
open Gf (Bytes sumTo addTo)

theorem infoByte : (Tryz.prog.info? 5).map (fun i => (i.zero, i.size, i.bytes)) = some (some (.int .u8 0), 1, 1) := by kernel_rfl
theorem make_bytes (n : Nat) (hn : n ≤ 100000) (w : World) :
    (Instr.makeSlice 85 (.int .i64 (n : Int)) (.int .i64 (n : Int))).run Tryz.prog w = .ok (.slice (some ⟨w.heap.size, 0, none⟩) n n) (w.alloc (.cells (madeCells #[.int .u8 0] n) 5)) :=
  run_make_row' 85 5 (.int .u8 0) 1 Tryz.underlying85 infoByte rfl .i64 .i64 n (by omega) (by omega) w
theorem made_bytes (w : World) (n : Nat) : Blk (w.alloc (.cells (madeCells #[.int .u8 0] n) 5)) w.heap.size 5 (bytesV (List.replicate n 0)) := by
  refine (Blk.new w _ _).eq ?_
  rw [toList_madeCells_one]; simp [bytesV]

theorem load_tab (f T : Nat) (wq : World) (hT : Blk wq T 171 (bytesV (tab f))) :
    (Instr.loadAt 171 (.pointer (some ⟨T, 0, none⟩))).run Tryz.prog wq.drew = .ok (.agg (bytesV (tab f)).toArray) wq.drew :=
  run_loadAt_mid _ _ _ _ _ _ (fun i v hv => by rw [Nat.zero_add]; exact hT.cell_some hv) Tryz.underlying171 rfl (by rw [infoTab]; simp [tab, low, high])

theorem range_to {w w' : World} {T : Nat} {cs : List Value} (h : w.rangeAt T 0 cs) (hb : Below w.heap.size w w') (hT : T < w.heap.size) : w'.rangeAt T 0 cs := fun i v hv => by
  rw [hb.cell (p := ⟨T, 0 + i, none⟩) hT]; exact h i v hv
theorem range_set {w : World} {T : Nat} {cs : List Value} (h : w.rangeAt T 0 cs) {a : Addr} (ha : T ≠ a.block) (u : Value) : (w.setCell a u).rangeAt T 0 cs := fun i v hv => by
  rw [World.cell?_of_block (w := w) (Below.heap_setCell w a u T ha)]; exact h i v hv
theorem range_blk {w : World} {T : Nat} {t : TypeId} {cs : List Value} (h : Blk w T t cs) : w.rangeAt T 0 cs := fun i v hv => by rw [Nat.zero_add]; exact h.cell_some hv

theorem round_facts (row : List Nat) (ps : List (List Nat)) (L j k f : Nat) (w wq : World) (S : Nat) (ao : Option Addr) (hlt : j < ps.length) (hrow : ps.length ≤ row.length) (hl : ∀ j, (h : j < ps.length) → ps[j].length = L)
    (hb1 : Bytes row) (hb2 : ∀ j, (h : j < ps.length) → Bytes ps[j]) (hf : row[j] = f)
    (hx : ps[j] = [] ∨ ∃ b off, ao = some ⟨b, off, none⟩ ∧ b < w.heap.size ∧ ∀ k, (h : k < ps[j].length) → w.cell? ⟨b, off + k, none⟩ = some (.int .u8 (ps[j][k] : Nat)))
    (hk : k < L) (hbq : Below w.heap.size w wq) (hb : Blk wq S 5 (bytesV (mix (sumTo row ps L (j + 1)) (sumTo row ps L j) k))) :
    ∃ o x b off, ao = some ⟨b, off, none⟩ ∧ o < 256 ∧ x < 256 ∧ wq.cell? ⟨b, off + k, none⟩ = some (.int .u8 (x : Nat)) ∧ wq.cell? ⟨S, k, none⟩ = some (.int .u8 (o : Nat)) ∧
      (bytesV (mix (sumTo row ps L (j + 1)) (sumTo row ps L j) k)).set k (.int .u8 (bits .xor .u8 (o : Nat) (Gf.times f x : Nat))) = bytesV (mix (sumTo row ps L (j + 1)) (sumTo row ps L j) (k + 1)) := by
  have hlj := hl j hlt
  have l0 : (sumTo row ps L j).length = L := Gf.sumTo_length row ps L hl _ (by omega)
  have l1 : (sumTo row ps L (j + 1)).length = L := Gf.sumTo_length row ps L hl _ (by omega)
  have le : (sumTo row ps L (j + 1)).length = (sumTo row ps L j).length := by omega
  rcases hx with h | ⟨b, off, rfl, hblt, hc⟩
  · rw [h] at hlj; simp at hlj; omega
  · refine ⟨(sumTo row ps L j)[k]'(by omega), ps[j][k]'(by omega), b, off, rfl, (Gf.sumTo_bytes row ps L hb1 j).at k _, (hb2 j hlt).at k _, ?_, ?_, ?_⟩
    · rw [hbq.cell (p := ⟨b, off + k, none⟩) hblt]; exact hc k (by omega)
    · refine hb.cell_some ?_
      simp [bytesV, mix_at le (show k < (sumTo row ps L j).length by omega)]
    · have hfb : row[j] < 256 := hb1.at j (by omega)
      rw [← hf, u8_xor_nat _ _ ((Gf.sumTo_bytes row ps L hb1 j).at k _) (Gf.times_lt _ _ hfb), ← Gf.sumTo_next row ps L j k hlt (by omega) (by omega) (by omega) (by omega), bytesV_set, mix_set le (by omega)]

set_option maxRecDepth 100000 in
set_option maxHeartbeats 1000000 in
theorem sumByTables_any (row : List Nat) (ps : List (List Nat)) (L : Nat) (rv pv : Value) (w : World) (ht : Table w) (hr : BsAt w rv row) (hp : RowsAt w pv ps)
    (hne : 0 < ps.length) (hn : ps.length ≤ 100) (hl : ∀ j, (h : j < ps.length) → ps[j].length = L) (hrow : ps.length ≤ row.length) (hb1 : Bytes row) (hb2 : ∀ j, (h : j < ps.length) → Bytes ps[j]) (hL : L ≤ 1000) :
    Calls Tryz.prog 101 #[rv, pv] w fun e w' => ∃ b, w.heap.size ≤ b ∧ e = .returned (.slice (some ⟨b, 0, none⟩) L L) ∧ Blk w' b 5 (bytesV (sumTo row ps L ps.length)) ∧ Below w.heap.size w w' := by
  obtain ⟨rb, roff, rcap, rfl, hrlt, hrc⟩ := hr.pos (by omega)
  obtain ⟨pb, poff, pcap, rfl, hplt, hpc⟩ := hp.pos hne
  obtain ⟨u0, hu0, ao0, cap0, rfl, hx0⟩ := hpc 0 hne
  rw [hl 0 hne, Nat.add_zero] at hu0
  have hmk := fun w => make_bytes L (by omega) w
  have HPC : Hid (∀ k, (h : k < ps.length) → ∃ u, w.cell? ⟨pb, poff + k, none⟩ = some u ∧ BsAt w u ps[k]) := hpc
  have HRC : Hid (∀ k, (h : k < row.length) → w.cell? ⟨rb, roff + k, none⟩ = some (.int .u8 (row[k] : Nat))) := hrc
  have HL : Hid (∀ j, (h : j < ps.length) → ps[j].length = L) := hl
  clear hpc hrc hl hx0
  go_enter Tryz.func101, Tryz.ntmps101
  go_wp2
  clear hu0
  go_loopw [18] (fun i wr => ∃ j : Nat, j ≤ ps.length ∧ i = .int .i64 j ∧ Blk wr w.heap.size 5 (bytesV (sumTo row ps L j)) ∧ Below w.heap.size w wr) (fun i _ => ps.length - (intOf i).toNat)
  case atStart => exact ⟨0, Nat.zero_le _, rfl, made_bytes w L, (Below.refl _ _).alloc (Nat.le_refl _) _⟩
  case round =>
    obtain ⟨j, hj, rfl, hb, hbel⟩ := hrel
    by_cases hlt : j < ps.length
    · obtain ⟨u, hu, hbs⟩ := HPC.out j hlt
      have hrj := HRC.out j (by omega)
      have hbs' := hbs
      obtain ⟨ao, cap, rfl, hx⟩ := hbs'
      rw [HL.out j hlt] at hu
      rw [← hbel.cell (p := ⟨pb, poff + j, none⟩) hplt] at hu
      rw [← hbel.cell (p := ⟨rb, roff + j, none⟩) hrlt] at hrj
      have hf : row[j] < 256 := hb1.at j (by omega)
      generalize hfe : row[j] = f at hrj hf
      have HFE : Hid (row[j] = f) := hfe
      have HX : Hid (ps[j] = [] ∨ ∃ b off, ao = some ⟨b, off, none⟩ ∧ b < w.heap.size ∧ ∀ k, (h : k < ps[j].length) → w.cell? ⟨b, off + k, none⟩ = some (.int .u8 (ps[j][k] : Nat))) := hx
      have HB : Hid (Blk wr w.heap.size 5 (bytesV (sumTo row ps L j))) := hb
      clear hfe hx hbs hb
      go_wp2_with fail
      refine (productsOf_any f hf _ (table_to ht hbel)).mono ?_
      rintro e w1 ⟨rfl, hw1⟩
      have HS : Hid ((Tryz.prog.info? 171).map (·.size) = some (bytesV (tab f)).toArray.size) := by show _ = _; rw [infoTab]; simp [tab, low, high]
      go_wp2_with (refine wpList_store_row rfl 171 _ _ rfl w1.heap.size _ rfl rfl 171 _ (heap_alloc_new w1 _) HS.out (by simp [tab, low, high]) (bytesV_one _) ?_)
      have hsz1 := hbel.size
      have hsz2 := hw1.size
      have hS := HB.out.lt
      go_loopw [30] (fun i wq => ∃ k : Nat, k ≤ L ∧ i = .int .i64 k ∧ Blk wq w.heap.size 5 (bytesV (mix (sumTo row ps L (j + 1)) (sumTo row ps L j) k)) ∧ Blk wq w1.heap.size 171 (bytesV (tab f)) ∧ Below w.heap.size w wq) (fun i _ => L - (intOf i).toNat)
      case atStart =>
        refine ⟨0, Nat.zero_le _, rfl, ?_, ?_, ?_⟩
        · rw [mix_zero]; exact ((HB.out.to hw1).alloc _).row_other (by omega) _
        · exact (Blk.new w1 _ _).row _
        · exact below_row (((hbel.trans (hw1.mono hsz1))).alloc (by omega) _) (by omega) _
      case round =>
        obtain ⟨k, hk, rfl, hb, hT, hbq⟩ := hrel
        by_cases hklt : k < L
        · obtain ⟨o, x, b, off, rfl, ho, hxb, hcx, hcs, hset⟩ := round_facts row ps L j k f w wr w.heap.size ao hlt hrow HL.out hb1 hb2 HFE.out HX.out hklt hbq hb
          have hfs := hb.free k
          have HSET : Hid _ := hset
          have HBQ : Hid _ := hb
          have HTQ : Hid _ := hT
          have hSlt := hb.lt
          have hTlt := hT.lt
          have hne : w1.heap.size ≠ w.heap.size := by omega
          have hr0 : wr.drew.rangeAt w1.heap.size 0 (bytesV (tab f)) := range_blk hT
          have hsz : (Tryz.prog.info? 171).map (·.size) = some (bytesV (tab f)).length := by rw [infoTab]; simp [tab, low, high]
          have HR0 : Hid _ := hr0
          have HSZ : Hid _ := hsz
          clear hset hb hT hu hrj HX hr0 hsz
          go_wp2_with fail
          refine wp_region_held (S := fun wx => wx.rangeAt w1.heap.size 0 (bytesV (tab f))) rfl ?_
          refine wpAnyH_take (i := 0) (v := .slice (some ⟨w.heap.size, 0, none⟩) L L) rfl (by kernel_rfl) (by kernel_rfl) (by kernel_rfl) (fun _ _ _ h => h) (Or.inl ⟨by rfl, fun w _ => by go_simp⟩) HR0.out ?_
          refine wpAnyH_take (i := 1) (v := .int .i64 k) rfl (by kernel_rfl) (by kernel_rfl) (by kernel_rfl) (fun _ _ _ h => h) (Or.inl ⟨by rfl, fun w _ => by go_simp⟩) HR0.out ?_
          refine wpAnyH_take (i := 4) (v := .agg (bytesV (tab f)).toArray) rfl (by kernel_rfl) (by kernel_rfl) (by kernel_rfl) (fun _ _ _ h => h) (yieldsIf_load_mid (by rfl) _ _ rfl _ _ rfl _ _ (fun w h => h) Tryz.underlying171 rfl HSZ.out) HR0.out ?_
          refine wpAnyH_take (i := 2) (v := .pointer (some ⟨w.heap.size, k, none⟩)) rfl (by kernel_rfl) (by kernel_rfl) (by kernel_rfl) (fun _ _ _ h => h) (Or.inl ⟨by rfl, fun w _ => by go_simp⟩) HR0.out ?_
          refine wpAnyH_take (i := 5) (v := .int .u8 x) rfl (by kernel_rfl) (by kernel_rfl) (by kernel_rfl) (fun _ _ _ h => h) (Or.inl ⟨by rfl, fun w _ => by go_simp⟩) HR0.out ?_
          simp only [Act.put, List.setIfInBounds_toArray]
          refine wpAnyH_ready (rs := [3, 6]) (by kernel_rfl) (by simp) ?_
          refine AllReadyH.cons rfl (fun K hK => ?_) (AllReadyH.cons rfl (fun K hK => ?_) AllReadyH.nil)
          · go_simp
            refine hK.out _ _ HR0.out (fun _ => ?_)
            clear hK K
            refine wpAnyH_ready (rs := [6]) (by kernel_rfl) (by simp) ?_
            refine AllReadyH.cons rfl (fun K hK => ?_) AllReadyH.nil
            go_simp
            refine (with_any f x hf hxb _).mono ?_
            rintro e w2 ⟨rfl, hw2⟩
            have c3 := (hw2.cell (p := ⟨w.heap.size, k, none⟩) (by exact hSlt)).trans hcs
            have f3 := (hw2.frozen (p := ⟨w.heap.size, k, none⟩) (by exact hSlt)).trans hfs
            have HR2 : Hid _ := range_to HR0.out hw2 hTlt
            dsimp only
            refine hK.out _ _ HR2.out (fun _ => ?_)
            clear hK K
            refine wpAnyH_take (i := 7) (v := .int .u8 (bits .xor .u8 (o : Nat) (Gf.times f x : Nat))) rfl (by kernel_rfl) (by kernel_rfl) (by kernel_rfl) (fun _ _ _ h => h) (Or.inl ⟨by rfl, fun w _ => by go_simp⟩) HR2.out ?_
            refine wpAnyH_take (i := 8) (v := .pointer (some ⟨w.heap.size, k, none⟩)) rfl (by kernel_rfl) (by kernel_rfl) (by kernel_rfl) (fun _ _ _ h => h) (Or.inl ⟨by rfl, fun w _ => by go_simp⟩) HR2.out ?_
            simp only [Act.put, List.setIfInBounds_toArray]
            refine wpAnyH_ready (rs := [9]) (by kernel_rfl) (by simp) ?_
            refine AllReadyH.cons rfl (fun K hK => ?_) AllReadyH.nil
            go_simp
            refine hK.out _ _ (range_set HR2.out hne _) (fun _ => ?_)
            clear hK K
            refine wpAnyH_done (by kernel_rfl) ?_ _
            go_wp2
            go_roundw
            case rel =>
              refine ⟨k + 1, by omega, by go_num, ?_, ?_, ?_⟩
              · exact ((Blk.below (w := wr.drew) HBQ.out hw2 (by exact hSlt)).set k _).eq HSET.out
              · exact (Blk.below (w := wr.drew) HTQ.out hw2 (by exact hTlt)).other hne _
              · exact (hbq.drew.trans (hw2.mono (by show _ ≤ wr.heap.size; omega))).setCell (Nat.le_refl _) _
            case measure => simp [intOf]; omega
          · go_simp
            refine (with_any f x hf hxb _).mono ?_
            rintro e w2 ⟨rfl, hw2⟩
            have c3 := (hw2.cell (p := ⟨w.heap.size, k, none⟩) (by exact hSlt)).trans hcs
            have f3 := (hw2.frozen (p := ⟨w.heap.size, k, none⟩) (by exact hSlt)).trans hfs
            have HR2 : Hid _ := range_to HR0.out hw2 hTlt
            dsimp only
            refine hK.out _ _ HR2.out (fun _ => ?_)
            clear hK K
            refine wpAnyH_ready (rs := [3]) (by kernel_rfl) (by simp) ?_
            refine AllReadyH.cons rfl (fun K hK => ?_) AllReadyH.nil
            go_simp
            refine hK.out _ _ HR2.out (fun _ => ?_)
            clear hK K
            refine wpAnyH_take (i := 7) (v := .int .u8 (bits .xor .u8 (o : Nat) (Gf.times f x : Nat))) rfl (by kernel_rfl) (by kernel_rfl) (by kernel_rfl) (fun _ _ _ h => h) (Or.inl ⟨by rfl, fun w _ => by go_simp⟩) HR2.out ?_
            refine wpAnyH_take (i := 8) (v := .pointer (some ⟨w.heap.size, k, none⟩)) rfl (by kernel_rfl) (by kernel_rfl) (by kernel_rfl) (fun _ _ _ h => h) (Or.inl ⟨by rfl, fun w _ => by go_simp⟩) HR2.out ?_
            simp only [Act.put, List.setIfInBounds_toArray]
            refine wpAnyH_ready (rs := [9]) (by kernel_rfl) (by simp) ?_
            refine AllReadyH.cons rfl (fun K hK => ?_) AllReadyH.nil
            go_simp
            refine hK.out _ _ (range_set HR2.out hne _) (fun _ => ?_)
            clear hK K
            refine wpAnyH_done (by kernel_rfl) ?_ _
            go_wp2
            go_roundw
            case rel =>
              refine ⟨k + 1, by omega, by go_num, ?_, ?_, ?_⟩
              · exact ((Blk.below (w := wr.drew) HBQ.out hw2 (by exact hSlt)).set k _).eq HSET.out
              · exact (Blk.below (w := wr.drew) HTQ.out hw2 (by exact hTlt)).other hne _
              · exact (hbq.drew.trans (hw2.mono (by show _ ≤ wr.heap.size; omega))).setCell (Nat.le_refl _) _
            case measure => simp [intOf]; omega
        · obtain rfl : k = L := by omega
          go_wp2
          go_roundw
          case rel =>
            refine ⟨j + 1, by omega, by go_num, ?_, hbq⟩
            refine hb.eq ?_
            have l0 : (sumTo row ps k j).length = k := Gf.sumTo_length row ps k HL.out _ (by omega)
            have l1 : (sumTo row ps k (j + 1)).length = k := Gf.sumTo_length row ps k HL.out _ (by omega)
            have e := mix_all (show (sumTo row ps k (j + 1)).length = (sumTo row ps k j).length by omega)
            rw [l0] at e
            rw [e]
          case measure => simp [intOf]; omega
    · obtain rfl : j = ps.length := by omega
      go_wp2
      go_ret
      exact ⟨w.heap.size, Nat.le_refl _, rfl, hb, hbel⟩
end Go.Proofs.YtokmllopbfmadaaGreatDoor.ByTab

namespace Go.Proofs.YtokmllopbfmadaaGreatDoor.ByTab
open Go.RowKit Mem FieldWalks Tab
open Gf (Bytes sumTo addTo)

theorem infoSlice : (Tryz.prog.info? 85).map (fun i => (i.zero, i.size, i.bytes)) = some (some (.slice none 0 0), 1, 24) := by kernel_rfl
theorem make_rows (n : Nat) (hn : n ≤ 100000) (w : World) :
    (Instr.makeSlice 89 (.int .i64 (n : Int)) (.int .i64 (n : Int))).run Tryz.prog w = .ok (.slice (some ⟨w.heap.size, 0, none⟩) n n) (w.alloc (.cells (madeCells #[.slice none 0 0] n) 85)) :=
  run_make_row' 89 85 (.slice none 0 0) 24 Tryz.underlying89 infoSlice rfl .i64 .i64 n (by omega) (by omega) w
theorem made_rows (w : World) (n : Nat) (f : Nat → List Nat) : Filled (w.alloc (.cells (madeCells #[.slice none 0 0] n) 85)) w.heap.size n 0 f := by
  refine Filled.zero ((Blk.new w _ _).eq (toList_madeCells_one _ n)) (by simp) f

/-- What is asked of the rows of factors and of the pieces. -/
structure Fit (rows ps : List (List Nat)) (L : Nat) : Prop where
  some : 0 < ps.length
  few : ps.length ≤ 100
  less : rows.length ≤ 6
  len : ∀ j, (h : j < ps.length) → ps[j].length = L
  wide : ∀ i, (h : i < rows.length) → rows[i].length = ps.length
  rbytes : ∀ i, (h : i < rows.length) → Bytes rows[i]
  pbytes : ∀ j, (h : j < ps.length) → Bytes ps[j]
  short : L ≤ 1000
/-- The sums: of each row of factors. -/
def sums (rows ps : List (List Nat)) (L : Nat) : List (List Nat) := rows.map fun r => sumTo r ps L ps.length

set_option maxRecDepth 100000 in
set_option maxHeartbeats 1000000 in
theorem sumsByTables_any (rows ps : List (List Nat)) (L : Nat) (rv pv : Value) (w : World) (ht : Table w) (hr : RowsAt w rv rows) (hp : RowsAt w pv ps) (hfit : Fit rows ps L) :
    Calls Tryz.prog 88 #[rv, pv] w fun e w' => ∃ v, e = .returned v ∧ RowsC w' v (sums rows ps L) ∧ Below w.heap.size w w' := by
  have hr0 := hr
  obtain ⟨rao, rcap, rfl, hrc⟩ := hr
  have hmk := fun w => make_rows rows.length (by have := hfit.less; omega) w
  have hless := hfit.less
  have HRC : Hid (rows = [] ∨ ∃ b off, rao = some ⟨b, off, none⟩ ∧ b < w.heap.size ∧ ∀ k, (h : k < rows.length) → ∃ u, w.cell? ⟨b, off + k, none⟩ = some u ∧ BsAt w u rows[k]) := hrc
  clear hrc
  go_enter Tryz.func88, Tryz.ntmps88
  go_wp2
  go_loopw [13] (fun i wr => ∃ k : Nat, k ≤ rows.length ∧ i = .int .i64 k ∧ Filled wr w.heap.size rows.length k (fun k => sumTo (rows.getD k []) ps L ps.length) ∧ Below w.heap.size w wr) (fun i _ => rows.length - (intOf i).toNat)
  case atStart => exact ⟨0, Nat.zero_le _, rfl, made_rows w _ _, (Below.refl _ _).alloc (Nat.le_refl _) _⟩
  case round =>
    obtain ⟨k, hk, rfl, hfl, hbel⟩ := hrel
    by_cases hlt : k < rows.length
    · obtain ⟨b, off, rfl, hb, hc⟩ : ∃ b off, rao = some ⟨b, off, none⟩ ∧ b < w.heap.size ∧ ∀ k, (h : k < rows.length) → ∃ u, w.cell? ⟨b, off + k, none⟩ = some u ∧ BsAt w u rows[k] := by
        rcases HRC.out with h | h
        · rw [h] at hlt; simp at hlt
        · exact h
      obtain ⟨u, hu, hbs⟩ := hc k hlt
      rw [← hbel.cell (p := ⟨b, off + k, none⟩) hb] at hu
      have hbs1 := hbs.to hbel
      have hp1 := hp.to hbel
      have hn : hfit.len = hfit.len := rfl
      have e1 : rows.getD k [] = rows[k] := by simp [hlt]
      have E1 : Hid (rows.getD k [] = rows[k]) := e1
      clear hc hbs e1 hn
      go_wp2_with fail
      refine (sumByTables_any rows[k] ps L _ _ _ (table_to ht hbel) hbs1 hp1 hfit.some hfit.few hfit.len (Nat.le_of_eq (hfit.wide k hlt).symm) (hfit.rbytes k hlt) hfit.pbytes hfit.short).mono ?_
      rintro e w2 ⟨c, hc, rfl, hblk, hw2⟩
      have hfl2 := hfl.to hw2
      obtain ⟨⟨v0, hv0⟩, hfr⟩ := hfl2.cell hlt
      have HF : Hid _ := hfl2
      have HB : Hid _ := hblk
      clear hfl hfl2 hblk
      go_wp2
      go_roundw
      case rel =>
        refine ⟨k + 1, by omega, by go_num, ?_, ?_⟩
        · have ho : OwnAt w2 (.slice (some ⟨c, 0, none⟩) L L) (sumTo (rows.getD k []) ps L ps.length) := by
            rw [E1.out]
            exact ⟨c, by rw [Gf.sumTo_length _ _ _ hfit.len _ (Nat.le_refl _)], HB.out⟩
          exact Filled.step HF.out hlt ho
        · exact (hbel.trans (hw2.mono hbel.size)).setCell (Nat.le_refl _) _
      case measure => simp [intOf]; omega
    · obtain rfl : k = rows.length := by omega
      go_wp2
      go_ret
      refine ⟨_, rfl, hfl.rowsC (by simp [sums]) (fun k hk => ?_), hbel⟩
      simp only [sums, List.length_map] at hk
      simp [sums, hk]
end Go.Proofs.YtokmllopbfmadaaGreatDoor.ByTab

namespace Go.Proofs.YtokmllopbfmadaaGreatDoor.Planes
open Go.RowKit Mem FieldWalks Tab ByTab
open Gf (Bytes)

theorem infoWord : (Tryz.prog.info? 149).map (fun i => (i.zero, i.size, i.bytes)) = some (some (.int .u64 0), 1, 8) := by kernel_rfl
theorem make_words (n : Nat) (hn : n ≤ 100000) (w : World) :
    (Instr.makeSlice 144 (.int .i64 (n : Int)) (.int .i64 (n : Int))).run Tryz.prog w = .ok (.slice (some ⟨w.heap.size, 0, none⟩) n n) (w.alloc (.cells (madeCells #[.int .u64 0] n) 149)) :=
  run_make_row' 144 149 (.int .u64 0) 8 Tryz.underlying144 infoWord rfl .i64 .i64 n (by omega) (by omega) w
theorem made_words (w : World) (n : Nat) : Blk (w.alloc (.cells (madeCells #[.int .u64 0] n) 149)) w.heap.size 149 (wordsV (List.replicate n 0)) := by
  refine (Blk.new w _ _).eq ?_
  rw [toList_madeCells_one]; simp [wordsV]

/-- The words of a piece. -/
def wordAt (p : List Nat) (i : Nat) : Nat := Gf.planes fun q => p.getD (8 * i + q) 0
def wordsOf (p : List Nat) (n : Nat) : List Nat := (List.range n).map (wordAt p)
/-- The word i behind k bytes and b bits of the next. -/
def wordTo (p : List Nat) (k b i : Nat) : Nat :=
  Gf.bitsOf 64 fun j => (decide (8 * i + j % 8 < k) || (decide (8 * i + j % 8 = k) && decide (j / 8 < b))) && (p.getD (8 * i + j % 8) 0).testBit (j / 8)
def wordsTo (p : List Nat) (n k b : Nat) : List Nat := (List.range n).map (wordTo p k b)
theorem wordsTo_length (p : List Nat) (n k b : Nat) : (wordsTo p n k b).length = n := by simp [wordsTo]
theorem wordTo_lt (p : List Nat) (k b i : Nat) : wordTo p k b i < 18446744073709551616 := Gf.bitsOf_lt 64 _
theorem wordsTo_start (p : List Nat) (n : Nat) : wordsTo p n 0 0 = List.replicate n 0 := by
  apply List.ext_getElem
  · simp [wordsTo]
  · intro i h1 h2
    simp only [wordsTo, List.getElem_map, List.getElem_range, List.getElem_replicate]
    refine (Gf.eq_bitsOf (n := 64) (Nat.two_pow_pos 64) fun j _ => ?_).symm
    simp
theorem wordsTo_turn (p : List Nat) (n k : Nat) : wordsTo p n k 8 = wordsTo p n (k + 1) 0 := by
  unfold wordsTo
  refine List.map_congr_left fun i _ => Gf.bitsOf_congr fun j hj => ?_
  have h8 : j / 8 < 8 := by omega
  by_cases h1 : 8 * i + j % 8 < k
  · simp [h1, show 8 * i + j % 8 < k + 1 by omega]
  · by_cases h2 : 8 * i + j % 8 = k
    · simp [h2, h8]
    · simp [h1, h2, show ¬ 8 * i + j % 8 < k + 1 by omega]
theorem wordsTo_all (p : List Nat) (n : Nat) : wordsTo p n p.length 0 = wordsOf p n := by
  unfold wordsTo wordsOf
  refine List.map_congr_left fun i _ => ?_
  unfold wordTo wordAt Gf.planes
  refine Gf.bitsOf_congr fun j hj => ?_
  by_cases h1 : 8 * i + j % 8 < p.length
  · simp [h1]
  · simp [List.getElem?_eq_none (show p.length ≤ 8 * i + j % 8 by omega)]
theorem wordTo_next (p : List Nat) (k b : Nat) (hb : b < 8) : wordTo p k b (k / 8) ||| (if (p.getD k 0).testBit b then 2 ^ (8 * b + k % 8) else 0) = wordTo p k (b + 1) (k / 8) := by
  refine Gf.or_bit _ (by omega) fun j hj => ?_
  by_cases e : j = 8 * b + k % 8
  · subst e
    rw [show (8 * b + k % 8) % 8 = k % 8 by omega, show (8 * b + k % 8) / 8 = b by omega, show 8 * (k / 8) + k % 8 = k by omega]
    simp
  · by_cases h2 : 8 * (k / 8) + j % 8 = k
    · have h3 : j / 8 ≠ b := by omega
      have h4 : (j / 8 < b + 1) ↔ (j / 8 < b) := by omega
      simp [h2, e, h4]
    · simp [h2, e]
theorem wordsTo_next (p : List Nat) (n k b : Nat) : (wordsTo p n k b).set (k / 8) (wordTo p k (b + 1) (k / 8)) = wordsTo p n k (b + 1) := by
  apply List.ext_getElem
  · simp [wordsTo]
  · intro i h1 h2
    simp only [wordsTo, List.length_map, List.length_range] at h2
    rw [List.getElem_set]
    split
    · rename_i e; subst e; simp [wordsTo]
    · rename_i e
      simp only [wordsTo, List.getElem_map, List.getElem_range]
      refine Gf.bitsOf_congr fun j hj => ?_
      have : 8 * i + j % 8 ≠ k := by omega
      simp [this]

set_option maxRecDepth 100000 in
set_option maxHeartbeats 1000000 in
theorem toPlanes_any (p : List Nat) (pv : Value) (w : World) (hp : BsAt w pv p) (hb : Bytes p) (hl : p.length ≤ 1000) :
    Calls Tryz.prog 94 #[pv] w fun e w' => ∃ c, w.heap.size ≤ c ∧ e = .returned (.slice (some ⟨c, 0, none⟩) ((p.length + 7) / 8) ((p.length + 7) / 8)) ∧ Blk w' c 149 (wordsV (wordsOf p ((p.length + 7) / 8))) ∧ Below w.heap.size w w' := by
  obtain ⟨ao, cap, rfl, hc⟩ := hp
  obtain ⟨n, hn⟩ : ∃ n, n = (p.length + 7) / 8 := ⟨_, rfl⟩
  have en : ((p.length : Int) + 7) / 8 = (n : Int) := by rw [hn]; omega
  have hmk := fun w => make_words n (by omega) w
  have HN : Hid (n = (p.length + 7) / 8) := hn
  have HC : Hid (p = [] ∨ ∃ b off, ao = some ⟨b, off, none⟩ ∧ b < w.heap.size ∧ ∀ k, (h : k < p.length) → w.cell? ⟨b, off + k, none⟩ = some (.int .u8 (p[k] : Nat))) := hc
  rw [← hn]
  clear hc hn
  go_enter Tryz.func94, Tryz.ntmps94
  go_wp2
  go_loopw [14] (fun i wr => ∃ k : Nat, k ≤ p.length ∧ i = .int .i64 k ∧ Blk wr w.heap.size 149 (wordsV (wordsTo p n k 0)) ∧ Below w.heap.size w wr) (fun i _ => p.length - (intOf i).toNat)
  case atStart => exact ⟨0, Nat.zero_le _, rfl, by rw [wordsTo_start]; exact made_words w n, (Below.refl _ _).alloc (Nat.le_refl _) _⟩
  case round =>
    obtain ⟨k, hk, rfl, hW, hbel⟩ := hrel
    by_cases hlt : k < p.length
    · obtain ⟨b, off, rfl, hblt, hcl⟩ : ∃ b off, ao = some ⟨b, off, none⟩ ∧ b < w.heap.size ∧ ∀ k, (h : k < p.length) → w.cell? ⟨b, off + k, none⟩ = some (.int .u8 (p[k] : Nat)) := by
        rcases HC.out with h | h
        · rw [h] at hlt; simp at hlt
        · exact h
      have hc0 := hcl k hlt
      rw [← hbel.cell (p := ⟨b, off + k, none⟩) hblt] at hc0
      have hxb : p[k] < 256 := hb.at k hlt
      have hxe : p.getD k 0 = p[k] := by simp [hlt]
      generalize p[k] = x at hc0 hxb hxe
      have HXE : Hid (p.getD k 0 = x) := hxe
      have hkn : k / 8 < n := by have := HN.out; omega
      clear hcl hxe
      go_wp2
      clear hc0
      go_loopw [19] (fun i wr => ∃ t : Nat, t ≤ 8 ∧ i = .int .i64 t ∧ Blk wr w.heap.size 149 (wordsV (wordsTo p n k t)) ∧ Below w.heap.size w wr) (fun i _ => 8 - (intOf i).toNat)
      case atStart => exact ⟨0, Nat.zero_le _, rfl, hW, hbel⟩
      case round =>
        clear hW hbel
        obtain ⟨t, ht, rfl, hW, hbel⟩ := hrel
        by_cases htlt : t < 8
        · have hc1 := hW.cell_some (k := k / 8) (v := .int .u64 (wordTo p k t (k / 8) : Nat)) (by rw [wordsV_at (by rw [wordsTo_length]; exact hkn)]; simp [wordsTo])
          have hf1 := hW.free (k / 8)
          obtain ⟨m, hm⟩ : ∃ m, m = 8 * t + k % 8 := ⟨_, rfl⟩
          have em : 8 * (t : Int) + (k : Int) % 8 = (m : Int) := by omega
          have hm64 : m < 64 := by omega
          have EV : Hid (bits .or .u64 (wordTo p k t (k / 8) : Nat) (IntKind.u64.wrap (IntKind.u64.wrap (bits .and .u8 ((x : Int) / 2 ^ t) 1) * 2 ^ m)) = (wordTo p k (t + 1) (k / 8) : Nat)) := by
            show _ = _
            rw [bit_word x t m hxb hm64, u64_or_nat _ _ (wordTo_lt _ _ _ _) (bit_lt _ _ hm64), ← HXE.out, hm, wordTo_next p k t htlt]
          have HW : Hid (Blk wr w.heap.size 149 (wordsV (wordsTo p n k t))) := hW
          generalize wordTo p k t (k / 8) = old at hc1 EV
          have hk8 : (k : Int) / 8 < (n : Int) := by omega
          clear hW hm
          go_wp2
          go_region
          go_wp2
          go_roundw
          case rel =>
            refine ⟨t + 1, by omega, by go_num, ?_, (hbel.setCell (Nat.le_refl _) _).drew⟩
            refine (HW.out.set (k / 8) _).drew.eq ?_
            rw [EV.out, wordsV_set, wordsTo_next p n k t]
          case measure => simp [intOf]; omega
        · obtain rfl : t = 8 := by omega
          rw [wordsTo_turn] at hW
          go_wp2
          go_roundw
          case rel => exact ⟨k + 1, by omega, by go_num, hW, hbel⟩
          case measure => simp [intOf]; omega
    · obtain rfl : k = p.length := by omega
      rw [wordsTo_all] at hW
      go_wp2
      go_ret
      exact ⟨w.heap.size, Nat.le_refl _, rfl, hW, hbel⟩
end Go.Proofs.YtokmllopbfmadaaGreatDoor.Planes

namespace Go.Proofs.YtokmllopbfmadaaGreatDoor.Planes
open Go.RowKit Mem FieldWalks Tab ByTab
open Gf (Bytes)

/-- A byte out of the words. -/
def byteTo (ws : List Nat) (k t : Nat) : Nat := Gf.bitsOf 8 fun b => decide (b < t) && (ws.getD (k / 8) 0).testBit (8 * b + k % 8)
def bytesOf (ws : List Nat) (L : Nat) : List Nat := (List.range L).map fun k => byteTo ws k 8
theorem byteTo_zero (ws : List Nat) (k : Nat) : byteTo ws k 0 = 0 := by
  refine (Gf.eq_bitsOf (n := 8) (Nat.two_pow_pos 8) fun j _ => ?_).symm
  simp
theorem byteTo_lt (ws : List Nat) (k t : Nat) : byteTo ws k t < 256 := Gf.bitsOf_lt 8 _
theorem byteTo_next (ws : List Nat) (k t : Nat) (ht : t < 8) : byteTo ws k t ||| (if (ws.getD (k / 8) 0).testBit (8 * t + k % 8) then 2 ^ t else 0) = byteTo ws k (t + 1) := by
  refine Gf.or_bit _ ht fun j hj => ?_
  by_cases e : j = t
  · subst e; simp
  · have h4 : (j < t + 1) ↔ (j < t) := by omega
    simp [e, h4]
theorem bytesOf_words (p : List Nat) (n : Nat) (hb : Bytes p) (hn : p.length ≤ 8 * n) : bytesOf (wordsOf p n) p.length = p := by
  apply List.ext_getElem
  · simp [bytesOf]
  · intro k h1 h2
    have hk8 : k / 8 < n := by omega
    have hw : (wordsOf p n).getD (k / 8) 0 = wordAt p (k / 8) := by simp [wordsOf, hk8]
    have hpk : p.getD k 0 = p[k] := by simp [h2]
    simp only [bytesOf, List.getElem_map, List.getElem_range]
    refine (Gf.eq_bitsOf (n := 8) (hb.at k h2) fun b hb8 => ?_).symm
    rw [hw, wordAt, Gf.planes, Gf.bitsOf_testBit, show (8 * b + k % 8) % 8 = k % 8 by omega, show (8 * b + k % 8) / 8 = b by omega, show 8 * (k / 8) + k % 8 = k by omega, hpk]
    simp [hb8, show 8 * b + k % 8 < 64 by omega]
theorem bit_byte (W m t : Nat) (hW : W < 18446744073709551616) (ht : t < 8) : IntKind.u8.wrap (IntKind.u8.wrap (bits .and .u64 ((W : Int) / 2 ^ m) 1) * 2 ^ t) = ((if W.testBit m then 2 ^ t else 0 : Nat) : Int) := by
  have h1 : bits .and .u64 ((W : Int) / 2 ^ m) 1 = if W.testBit m then 1 else 0 := by
    have hl : W / 2 ^ m < 18446744073709551616 := Nat.lt_of_le_of_lt (Nat.div_le_self _ _) hW
    rw [Gf.cast_shr, show (1 : Int) = ((1 : Nat) : Int) from rfl, u64_and_nat _ _ hl (by omega), nat_mask1, Gf.testBit_div]
    have hlt : W / 2 ^ m % 2 < 2 := Nat.mod_lt _ (by omega)
    generalize W / 2 ^ m % 2 = t at hlt ⊢
    rcases (show t = 0 ∨ t = 1 by omega) with rfl | rfl <;> rfl
  rw [h1]
  have hp : (2 : Nat) ^ t < 256 := Gf.two_lt t ht
  split
  · rw [IntKind.wrap_u8', IntKind.wrap_u8']
    have e : ((2 : Int) ^ t) = ((2 ^ t : Nat) : Int) := by simp
    rw [e, show (1 : Int) % 256 = 1 from rfl, Int.one_mul]
    generalize 2 ^ t = u at hp ⊢
    omega
  · rw [IntKind.wrap_u8', IntKind.wrap_u8']; simp
theorem bit_lt8 (b : Bool) (t : Nat) (ht : t < 8) : (if b then 2 ^ t else 0) < 256 := by
  split
  · exact Gf.two_lt t ht
  · omega

set_option maxRecDepth 100000 in
set_option maxHeartbeats 1000000 in
theorem fromPlanes_any (ws : List Nat) (n L c : Nat) (w : World) (hc : Blk w c 149 (wordsV ws)) (hn : ws.length = n) (hL : L ≤ 8 * n) (hl : L ≤ 1000) (hw : ∀ x, x ∈ ws → x < 18446744073709551616) :
    Calls Tryz.prog 95 #[.slice (some ⟨c, 0, none⟩) n n, .int .i64 L] w fun e w' => ∃ b, w.heap.size ≤ b ∧ e = .returned (.slice (some ⟨b, 0, none⟩) L L) ∧ Blk w' b 5 (bytesV (bytesOf ws L)) ∧ Below w.heap.size w w' := by
  have hmk := fun w => make_bytes L (by omega) w
  have HC : Hid (Blk w c 149 (wordsV ws)) := hc
  have hclt := hc.lt
  have HW : Hid (∀ x, x ∈ ws → x < 18446744073709551616) := hw
  clear hc hw
  go_enter Tryz.func95, Tryz.ntmps95
  go_wp2
  go_loopw [11] (fun i wr => ∃ k : Nat, k ≤ L ∧ i = .int .i64 k ∧ Blk wr w.heap.size 5 (bytesV (mix (bytesOf ws L) (List.replicate L 0) k)) ∧ Below w.heap.size w wr) (fun i _ => L - (intOf i).toNat)
  case atStart => exact ⟨0, Nat.zero_le _, rfl, by rw [mix_zero]; exact made_bytes w L, (Below.refl _ _).alloc (Nat.le_refl _) _⟩
  case round =>
    obtain ⟨k, hk, rfl, hB, hbel⟩ := hrel
    by_cases hlt : k < L
    · have hk8 : k / 8 < ws.length := by omega
      have hcw := (HC.out.to hbel).cell_some (k := k / 8) (wordsV_at hk8)
      have hWb : ws[k / 8] < 18446744073709551616 := HW.out _ (List.getElem_mem hk8)
      have hWe : ws.getD (k / 8) 0 = ws[k / 8] := by simp [hk8]
      generalize ws[k / 8] = W at hcw hWb hWe
      have HWB : Hid (W < 18446744073709551616) := hWb
      have HWE : Hid (ws.getD (k / 8) 0 = W) := hWe
      have hki : (k : Int) / 8 < (n : Int) := by omega
      have HCW : Hid (w.cell? ⟨c, k / 8, none⟩ = some (.int .u64 W)) := by show _ = _; rw [← hbel.cell (p := ⟨c, k / 8, none⟩) hclt]; exact hcw
      clear hWb hWe hcw
      go_wp2
      go_loopw [14] (fun i wr => ∃ t : Nat, t ≤ 8 ∧ i = .int .i64 t ∧ Blk wr w.heap.size 5 (bytesV ((mix (bytesOf ws L) (List.replicate L 0) k).set k (byteTo ws k t))) ∧ Below w.heap.size w wr) (fun i _ => 8 - (intOf i).toNat)
      case atStart =>
        refine ⟨0, Nat.zero_le _, rfl, hB.eq ?_, hbel⟩
        rw [byteTo_zero, mix_stay (by simp [bytesOf]) (by simpa using hlt) (List.getElem_replicate _)]
      case round =>
        clear hB hbel
        obtain ⟨t, ht, rfl, hB, hbel⟩ := hrel
        by_cases htlt : t < 8
        · have hc1 := hB.cell_some (k := k) (v := .int .u8 (byteTo ws k t : Nat)) (by rw [bytesV_at (by rw [List.length_set, mix_length (by simp [bytesOf])]; simpa using hlt)]; simp)
          have hf1 := hB.free k
          have hcw := HCW.out
          rw [← hbel.cell (p := ⟨c, k / 8, none⟩) hclt] at hcw
          obtain ⟨m, hm⟩ : ∃ m, m = 8 * t + k % 8 := ⟨_, rfl⟩
          have em : 8 * (t : Int) + (k : Int) % 8 = (m : Int) := by omega
          have hm64 : m < 64 := by omega
          have EV : Hid (bits .or .u8 (byteTo ws k t : Nat) (bits .and .u64 ((W : Int) / 2 ^ m) 1 % 256 * 2 ^ t % 256) = (byteTo ws k (t + 1) : Nat)) := by
            show _ = _
            rw [← IntKind.wrap_u8', ← IntKind.wrap_u8', bit_byte W m t HWB.out htlt, u8_or_nat _ _ (byteTo_lt _ _ _) (bit_lt8 _ _ htlt), ← HWE.out, hm, byteTo_next ws k t htlt]
          have HB : Hid (Blk wr w.heap.size 5 (bytesV ((mix (bytesOf ws L) (List.replicate L 0) k).set k (byteTo ws k t)))) := hB
          generalize byteTo ws k t = old at hc1 EV
          clear hB hm
          go_wp2
          go_region
          go_wp2
          go_roundw
          case rel =>
            refine ⟨t + 1, by omega, by go_num, ?_, (hbel.setCell (Nat.le_refl _) _).drew⟩
            refine (HB.out.set k _).drew.eq ?_
            rw [EV.out, bytesV_set, List.set_set]
          case measure => simp [intOf]; omega
        · obtain rfl : t = 8 := by omega
          go_wp2
          go_roundw
          case rel =>
            refine ⟨k + 1, by omega, by go_num, hB.eq ?_, hbel⟩
            rw [← mix_set (k := k) (new := bytesOf ws L) (old := List.replicate L 0) (by simp [bytesOf]) (by simpa using hlt)]
            simp [bytesOf]
          case measure => simp [intOf]; omega
    · obtain rfl : k = L := by omega
      have e := mix_all (new := bytesOf ws k) (old := List.replicate k 0) (by simp [bytesOf])
      simp only [List.length_replicate] at e
      rw [e] at hB
      go_wp2
      go_ret
      exact ⟨w.heap.size, Nat.le_refl _, rfl, hB, hbel⟩
end Go.Proofs.YtokmllopbfmadaaGreatDoor.Planes
