import Derived.Test.YtokmllopbfmadabDoorGPWay
import Derived.Test.YtokmllopbfmadabDoorGShaped
import Derived.Shelf.Bytes.SlJoin
namespace Go.Proofs.YtokmllopbfmadabDoor.Ref
open Go.RowKit Mem FieldWalks Tab ByTab Parts
open Gf (Bytes chosen left_ rowOf enough Wide chosen_ker chosen_lt chosen_length Fits colOf sumTo)
open Plans (But rowF intsV infoInt)
open Top (SumsOk)

theorem wpList_conv_w {P : Program} (w : World) {ops : Array Oper} {rest : List Oper} {o : Oper} {a : Act} {Q : Exit → Act → World → Prop}
    (hgd : o.guard = none) (src dst : TypeId) (x : Operand) (hop : o.op = Op.convert src dst x) (v r : Value) (w' : World) (hx : a.eval x = v) (hrun : (convert src dst v).run P w = .ok r w')
    (hK : wpList P ops Q rest (a.put o.dst r) w') : wpList P ops Q (o :: rest) a w := by
  refine wpList_plain hgd fun K hK' => ?_
  unfold Oper.wp
  simp [execOp, hop, hx, hrun, Result.andThen]
  exact hK' _ _ hK
/-- The pieces that are taken. -/
def lefts (d s : Nat) (lost : List Int) (pieces : List ByteArray) : List (List Nat) := (chosen (left_ lost) d s).map fun p => nums (pieces.getD p ByteArray.empty)
section
variable {d s L : Nat} {lost : List Int} {pieces : List ByteArray} {ps : List (List Nat)}
theorem lefts_size (hyes : ShapeOk d s L pieces lost) (k : Nat) (h : k < (lefts d s lost pieces).length) : (lefts d s lost pieces)[k].length = L := by
  simp only [lefts, List.getElem_map]
  have hk : k < (chosen (left_ lost) d s).length := by simpa [lefts] using h
  have h1 := chosen_lt (left_ lost) d s _ (List.getElem_mem hk)
  have hp : (chosen (left_ lost) d s)[k] < pieces.length := by rw [hyes.count]; exact h1.1
  rw [nums_length, show pieces.getD (chosen (left_ lost) d s)[k] ByteArray.empty = pieces[(chosen (left_ lost) d s)[k]] by simp [hp]]
  refine hyes.sizes _ hp ?_
  have := h1.2
  simpa [left_] using this
theorem ext_getD (a b : List Nat) (h : a.length = b.length) (e : ∀ t, t < a.length → a.getD t 0 = b.getD t 0) : a = b := by
  apply List.ext_getElem h
  intro t h1 h2
  have := e t h1
  simpa [h1, h2] using this
/-- A data piece that is left stands among the taken ones. -/
theorem left_at (hfit : Fits d L (chosen (left_ lost) d s) (fun p => nums (pieces.getD p ByteArray.empty)) ps) (hyes : ShapeOk d s L pieces lost) (j : Nat) (hj : j < d) (hl : left_ lost j = true) : (lefts d s lost pieces)[((List.range j).filter (left_ lost)).length]? = some (ps.getD j []) := by
  have h1 := Ref.chosen_at (left_ lost) d s j hj hl
  have hmem := List.mem_of_getElem? h1
  unfold lefts
  rw [List.getElem?_map, h1]
  simp only [Option.map_some, Option.some.injEq]
  have hjp : j < ps.length := by rw [hfit.len]; exact hj
  have hpj : ps.getD j [] = ps[j] := by simp [hjp]
  have hjl : j < pieces.length := by rw [hyes.count]; omega
  have hsz : (nums (pieces.getD j ByteArray.empty)).length = L := by
    rw [nums_length, show pieces.getD j ByteArray.empty = pieces[j] by simp [hjl]]
    exact hyes.sizes j hjl (by simpa [left_] using hl)
  rw [hpj]
  refine ext_getD _ _ (by rw [hsz, hfit.size j hjp]) fun t ht => ?_
  rw [hsz] at ht
  rw [← hfit.fits j hmem t ht, Gf.dot_unit d j hj _ (fun k _ => Gf.colOf_lt hfit.byte t k)]
  unfold colOf
  rw [hpj]
/-- What the way back makes of the taken ones is the lost data piece. -/
theorem back_at (hfit : Fits d L (chosen (left_ lost) d s) (fun p => nums (pieces.getD p ByteArray.empty)) ps) (hyes : ShapeOk d s L pieces lost) (hd2 : d ≤ 10) (hs : s ≤ 6) (hfew : lost.length ≤ s) {M : Nat → Nat → Nat} (hw : Wide d d (takenA d s lost) M) (j : Nat) (hj : j < d) (hg : gone_ lost j = true) :
    (sums (backs d d lost M) (lefts d s lost pieces) L)[((List.range j).filter (gone_ lost)).length]? = some (ps.getD j []) := by
  have hcl := chosen_length (left_ lost) d s (enough d s lost hfew)
  have hll : (lefts d s lost pieces).length = d := by simp [lefts, hcl]
  have hjp : j < ps.length := by rw [hfit.len]; exact hj
  have hpj : ps.getD j [] = ps[j] := by simp [hjp]
  unfold sums backs
  rw [List.getElem?_map, List.getElem?_map, filter_at (gone_ lost) j d hj hg]
  simp only [Option.map_some, Option.some.injEq]
  rw [hpj]
  have hsl := Gf.sumTo_length (rowF d (fun n => M j (d + n))) (lefts d s lost pieces) L (fun k hk => lefts_size hyes k hk) (lefts d s lost pieces).length (Nat.le_refl _)
  refine ext_getD _ _ (by rw [hsl, hfit.size j hjp]) fun t ht => ?_
  rw [hsl] at ht
  rw [Gf.sumTo_dot _ _ L t (fun k hk => lefts_size hyes k hk) ht _ (Nat.le_refl _), hll]
  have hA : ∀ n, n < d → ∀ k, k < d → takenA d s lost n k < 256 := fun n hn k hk => by
    have hn' : n < (chosen (left_ lost) d s).length := by omega
    have := (chosen_lt (left_ lost) d s _ (List.getElem_mem hn')).1
    unfold takenA
    rw [List.getD_eq_getElem?_getD, List.getElem?_eq_getElem hn', Option.getD_some]
    exact Gf.rowOf_lt _ _ _ (by omega) (by omega)
  have hb := hw.back hA (colOf ps t) (fun k => Gf.colOf_lt hfit.byte t k) j hj
  have e : colOf ps t j = ps[j].getD t 0 := by unfold colOf; rw [hpj]
  rw [← e, ← hb]
  refine Gf.xs_congr fun n hn => ?_
  have hn' : n < (chosen (left_ lost) d s).length := by omega
  have hnl : n < (lefts d s lost pieces).length := by omega
  rw [rowF_at' d _ n hn]
  congr 1
  have e2 : colOf (lefts d s lost pieces) t n = (nums (pieces.getD (chosen (left_ lost) d s)[n] ByteArray.empty)).getD t 0 := by
    unfold colOf
    rw [show (lefts d s lost pieces).getD n [] = (lefts d s lost pieces)[n] by simp [hnl]]
    simp [lefts]
  rw [e2, ← hfit.fits _ (List.getElem_mem hn') t ht]
  unfold takenA
  rw [List.getD_eq_getElem?_getD, List.getElem?_eq_getElem hn', Option.getD_some]
theorem fit_back (hyes : ShapeOk d s L pieces lost) (hd : 1 ≤ d) (hd2 : d ≤ 10) (hs6 : s ≤ 6) (hfew : lost.length ≤ s) (hL : L ≤ 400) {M : Nat → Nat → Nat} (hw : Wide d d (takenA d s lost) M) : Fit (backs d d lost M) (lefts d s lost pieces) L := by
  have hcl := chosen_length (left_ lost) d s (enough d s lost hfew)
  have hll : (lefts d s lost pieces).length = d := by simp [lefts, hcl]
  have hbl : (backs d d lost M).length ≤ lost.length := by
    unfold backs; rw [List.length_map]
    exact Gf.filter_mem_le lost (List.range d) List.nodup_range
  refine ⟨by omega, by omega, by omega, fun j hj => lefts_size hyes j hj, fun i hi => ?_, fun i hi => ?_, fun j hj => ?_, by omega⟩
  · rw [hll]; simp [backs]
  · have hm : (backs d d lost M)[i] ∈ ((List.range d).filter (gone_ lost)).map fun j => rowF d (fun n => M j (d + n)) := List.getElem_mem hi
    obtain ⟨j, hj, e⟩ := List.mem_map.1 hm
    have hjd : j < d := by have := (List.mem_filter.1 hj).1; simpa using this
    rw [← e]
    intro v hv
    simp only [rowF, List.mem_map, List.mem_range] at hv
    obtain ⟨n, hn, rfl⟩ := hv
    exact hw.byte j hjd (d + n) (by omega)
  · simp only [lefts, List.getElem_map]
    exact nums_bytes _
end

set_option maxRecDepth 100000 in
set_option maxHeartbeats 4000000 in
theorem rebuild_any (hS : SumsOk) (d s x L : Nat) (pieces : List ByteArray) (lost : List Int) (ps : List (List Nat)) (pv lv : Value) (w : World) (ht : Table w) (hp : StrsAt w pv pieces) (hl : IsC w lv lost) (hd : 1 ≤ d) (hd2 : d ≤ 10) (hs : s ≤ 6) (hx : x ≤ 2) (hL : L ≤ 400)
    (hyes : ShapeOk d s L pieces lost) (hfew : lost.length ≤ s) (hfit : Fits d L (chosen (left_ lost) d s) (fun p => nums (pieces.getD p ByteArray.empty)) ps) :
    Calls Tryd.prog 47 #[.int .i64 d, .int .i64 s, .int .i64 x, pv, lv] w fun e w' => ∃ b, w.heap.size ≤ b ∧ e = .returned (.slice (some ⟨b, 0, none⟩) d d) ∧ RowsC w' (.slice (some ⟨b, 0, none⟩) d d) ps ∧ Below w.heap.size w w' := by
  have hcl := chosen_length (left_ lost) d s (enough d s lost hfew)
  have HCL : Hid ((chosen (left_ lost) d s).length = d) := hcl
  have HCLT : Hid (∀ k, (h : k < (chosen (left_ lost) d s).length) → (chosen (left_ lost) d s)[k] < d + s ∧ left_ lost (chosen (left_ lost) d s)[k] = true) := fun k h => chosen_lt (left_ lost) d s _ (List.getElem_mem h)
  have HYES : Hid (ShapeOk d s L pieces lost) := hyes
  have HFIT : Hid (Fits d L (chosen (left_ lost) d s) (fun p => nums (pieces.getD p ByteArray.empty)) ps) := hfit
  have HFEW : Hid (lost.length ≤ s) := hfew
  have hcn := hyes.count
  have HCN : Hid (pieces.length = d + s) := hcn
  have HFL := firstLeft_any d s lost lv w hl hd hd2 hs hfew
  have HFLH : Hid _ := HFL
  have HL : Hid (IsC w lv lost) := hl
  have HT : Hid (Table w) := ht
  obtain ⟨pb, poff, pcap, rfl, hplt, hpc⟩ : ∃ b off cap, pv = .slice (some ⟨b, off, none⟩) pieces.length cap ∧ b < w.heap.size ∧ ∀ k, (h : k < pieces.length) → w.cell? ⟨b, off + k, none⟩ = some (.string pieces[k]) := by
    obtain ⟨ao, cap, rfl, h⟩ := hp
    rcases h with h | ⟨b, off, rfl, h1, h2⟩
    · rw [h] at hcn; simp at hcn; omega
    · exact ⟨b, off, cap, rfl, h1, h2⟩
  have HPC : Hid (∀ k, (h : k < pieces.length) → w.cell? ⟨pb, poff + k, none⟩ = some (.string pieces[k])) := hpc
  have hmk := fun w => make_rows d (by omega) w
  obtain ⟨N, hN⟩ : ∃ N, N = pieces.length := ⟨_, rfl⟩
  have HN : Hid (N = pieces.length) := hN
  have hN1 : N ≤ d + s := by omega
  have hN2 : d + s ≤ N := by omega
  rw [← hN]
  have hlb : lost.length < 2 ^ 62 := by omega
  clear hcl hyes hfit hfew hcn HFL hl ht hp hpc hN
  go_enter Tryd.func47, Tryd.ntmps47
  go_wp2_with fail
  refine Calls.mono HFLH.out ?_
  rintro e w1 ⟨nb, hnb, rfl, hints, hb1⟩
  have HIN : Hid (Blk w1 nb 3 (intsV (chosen (left_ lost) d s))) := hints
  have HB1 : Hid (Below w.heap.size w w1) := hb1
  have hnbl := hints.lt
  clear hints hb1 HFLH
  go_wp2
  go_loopw [25] (fun i wr => ∃ k : Nat, k ≤ d ∧ i = .int .i64 k ∧ Fill9 wr w1.heap.size d k True (fun k => nums (pieces.getD ((chosen (left_ lost) d s).getD k 0) ByteArray.empty)) ∧ Below w1.heap.size w1 wr) (fun i _ => d - (intOf i).toNat)
  case atStart => exact ⟨0, Nat.zero_le _, rfl, Fill9.start ((Blk.new w1 _ _).eq (toList_madeCells_one _ d)) (by simp) _ _, (Below.refl _ _).alloc (Nat.le_refl _) _⟩
  case round =>
    obtain ⟨k, hk, rfl, hfill, hbel⟩ := hrel
    by_cases hkd : k < d
    · have hkc : k < (chosen (left_ lost) d s).length := by rw [HCL.out]; exact hkd
      have c0 := (HIN.out.to hbel).cell_some (k := k) (v := .int .i64 ((chosen (left_ lost) d s)[k] : Nat)) (by simp [intsV, hkc])
      obtain ⟨p, hp⟩ : ∃ p, p = (chosen (left_ lost) d s)[k] := ⟨_, rfl⟩
      have hpl := HCLT.out k hkc
      rw [← hp] at c0 hpl
      have hpN : p < pieces.length := by rw [HCN.out]; exact hpl.1
      have c1 := HPC.out p hpN
      rw [← (HB1.out.trans (hbel.mono HB1.out.size)).cell (p := ⟨pb, poff + p, none⟩) hplt] at c1
      obtain ⟨y, hy⟩ : ∃ y, y = pieces[p] := ⟨_, rfl⟩
      rw [← hy] at c1
      have hys : y.size = L := by
        rw [hy]; refine HYES.out.sizes p hpN ?_
        have := hpl.2; simpa [left_] using this
      have HY : Hid (pieces.getD ((chosen (left_ lost) d s).getD k 0) ByteArray.empty = y) := by
        show _ = _
        rw [show (chosen (left_ lost) d s).getD k 0 = p by rw [hp]; simp [hkc], hy]; simp [hpN]
      have hsz := hbel.size
      have HB : Hid (Below w1.heap.size w1 (Lib.bytesWorld wr 5 y)) := hbel.trans ((below_bytes wr y).mono hsz)
      have HF : Hid (Fill9 (Lib.bytesWorld wr 5 y) w1.heap.size d k True (fun k => nums (pieces.getD ((chosen (left_ lost) d s).getD k 0) ByteArray.empty))) := hfill.to (below_bytes wr y)
      have HR : Hid (Row8 (Lib.bytesWorld wr 5 y) wr.heap.size (nums y)) := Row8.new wr y
      obtain ⟨⟨ov, k1⟩, k2, k3⟩ := HF.out.cell k hkd
      have hw1lt := (hfill.cell k hkd).2.2
      have hconv := Lib.run_convert_string_bytes (P := Tryd.prog) wr 9 56 5 y Tryd.underlying9 Tryd.underlying56 Tryd.underlying5
      rw [hys] at hconv
      have hgc := grownCap_ge wr L 0 5
      generalize grownCap wr L 0 5 = gc at hconv hgc
      generalize Lib.bytesWorld wr 5 y = wb at HB HF HR hconv k1 k2 k3
      have HCV : Hid ((convert 9 56 (.string y)).run Tryd.prog wr = .ok (.slice (some ⟨wr.heap.size, 0, none⟩) L gc) wb) := hconv
      have HF2 : Hid (Fill9 (wb.setCell ⟨w1.heap.size, k, none⟩ (.slice (some ⟨wr.heap.size, 0, none⟩) L gc)) w1.heap.size d (k + 1) True (fun k => nums (pieces.getD ((chosen (left_ lost) d s).getD k 0) ByteArray.empty))) := by
        refine HF.out.step hkd ?_
        show BsNe wb w1.heap.size True (.slice (some ⟨wr.heap.size, 0, none⟩) L gc) (nums (pieces.getD ((chosen (left_ lost) d s).getD k 0) ByteArray.empty))
        rw [HY.out]
        refine ⟨_, gc, by rw [nums_length, hys], fun _ => by rw [nums_length, hys]; exact hgc, .inr ⟨wr.heap.size, 0, rfl, by omega, HR.out.lt, fun i hi => by rw [Nat.zero_add]; exact HR.out.cell i hi⟩⟩
      have hpi : (p : Int) < (N : Int) := by omega
      clear hconv hfill hy hys hbel hp hpl
      go_wp2_with (refine wpList_conv_w _ rfl 9 56 _ rfl (.string y) _ wb rfl HCV.out ?_)
      go_roundw
      case rel => exact ⟨k + 1, by omega, by go_num, HF2.out, HB.out.setCell (Nat.le_refl _) _⟩
      case measure => simp [intOf]; omega
    · obtain rfl : d = k := by omega
      obtain ⟨w2, rfl⟩ : ∃ w2, w2 = wr := ⟨_, rfl⟩
      have HLE : Hid (RowsC w2 (.slice (some ⟨w1.heap.size, 0, none⟩) d d) (lefts d s lost pieces)) := hfill.rowsC _ (by simp [lefts, HCL.out]) (fun i hi => by
        have hi' : i < (chosen (left_ lost) d s).length := by simpa [lefts] using hi
        simp [lefts, hi'])
      have HB2 : Hid (Below w.heap.size w w2) := HB1.out.trans (hbel.mono HB1.out.size)
      have hwb := wayBack_any d s lost lv nb w2 (table_to HT.out HB2.out) (HL.out.to HB2.out) hd hd2 hs HFEW.out (HIN.out.to hbel)
      have HWB : Hid _ := hwb
      clear hwb hfill hbel
      go_wp2_with fail
      refine Calls.mono HWB.out ?_
      rintro e w3 ⟨rv, M, rfl, hwide, hback, hb3⟩
      have HW : Hid (Wide d d (takenA d s lost) M) := hwide
      have HB3 : Hid (Below w.heap.size w w3) := HB2.out.trans (hb3.mono HB2.out.size)
      have HLE3 : Hid (RowsC w3 (.slice (some ⟨w1.heap.size, 0, none⟩) d d) (lefts d s lost pieces)) := HLE.out.to hb3
      have hsu := hS x (backs d d lost M) (lefts d s lost pieces) L rv (.slice (some ⟨w1.heap.size, 0, none⟩) d d) w3 hx (table_to HT.out HB3.out) hback HLE3.out (fit_back HYES.out hd hd2 hs HFEW.out hL hwide)
      have HSU : Hid _ := hsu
      clear hsu hwide hback hb3 HWB HLE
      go_wp2_with fail
      refine Calls.mono HSU.out ?_
      rintro e w4 ⟨mv, rfl, hmade, hb4⟩
      have HB4 : Hid (Below w.heap.size w w4) := HB3.out.trans (hb4.mono HB3.out.size)
      have HMA : Hid (RowsC w4 mv (sums (backs d d lost M) (lefts d s lost pieces) L)) := hmade
      have HLE4 : Hid (RowsC w4 (.slice (some ⟨w1.heap.size, 0, none⟩) d d) (lefts d s lost pieces)) := HLE3.out.to hb4
      obtain ⟨mao, mex, rfl, hmc⟩ := hmade
      obtain ⟨SM, hSM⟩ : ∃ SM, SM = (sums (backs d d lost M) (lefts d s lost pieces) L).length := ⟨_, rfl⟩
      rw [← hSM]
      have HSM : Hid (SM = (sums (backs d d lost M) (lefts d s lost pieces) L).length) := hSM
      have HMC : Hid (SM = 0 ∨ ∃ mb moff, mao = some ⟨mb, moff, none⟩ ∧ mb < w4.heap.size ∧ ∀ k r, (sums (backs d d lost M) (lefts d s lost pieces) L)[k]? = some r → ∃ u, w4.cell? ⟨mb, moff + k, none⟩ = some u ∧ BsC w4 u r) := by
        rcases hmc with h | ⟨mb, moff, h1, h2, h3⟩
        · left; rw [hSM, h]; rfl
        · right; refine ⟨mb, moff, h1, h2, fun k r hr => ?_⟩
          obtain ⟨hk, rfl⟩ := List.getElem?_eq_some_iff.1 hr
          exact h3 k hk
      have hSMs : SM ≤ 10 := by
        rw [hSM]; unfold sums backs; rw [List.length_map, List.length_map]
        have := List.length_filter_le (gone_ lost) (List.range d)
        rw [List.length_range] at this; omega
      have HLC : Hid (∀ k r, (lefts d s lost pieces)[k]? = some r → ∃ u, w4.cell? ⟨w1.heap.size, k, none⟩ = some u ∧ BsC w4 u r) := fun k r hr => by
        obtain ⟨hk, rfl⟩ := List.getElem?_eq_some_iff.1 hr
        obtain ⟨b, off, cap, he, h1, h2⟩ := HLE4.out.pos (by omega)
        injection he with he _ _
        injection he with he
        injection he with he1 he2
        subst he1 he2
        obtain ⟨u, h3, h4⟩ := h2 k hk
        exact ⟨u, by rw [Nat.zero_add] at h3; exact h3, h4⟩
      have hw14 : w1.heap.size < w4.heap.size := by
        obtain ⟨b, off, cap, he, h1, h2⟩ := HLE4.out.pos (by simp [lefts, HCL.out]; omega)
        injection he with he _ _
        injection he with he
        injection he with he1 he2
        omega
      obtain ⟨g1, hg1⟩ : ∃ g1, g1 = w1.heap.size := ⟨_, rfl⟩
      rw [← hg1] at HLC hw14 ⊢
      clear hmc hb4 HSU HLE3 hSM HMA HLE4 hg1
      go_wp2
      go_loopw [12, 15, 51] (fun lt mt i wr => ∃ (j lo lrem mrem : Nat) (la ma : Option Addr), j ≤ d ∧ i = .int .i64 j ∧ lo = ((List.range j).filter (left_ lost)).length ∧ lrem + lo = d ∧ lt = .slice la lrem lrem ∧ (0 < lrem → la = some ⟨g1, lo, none⟩) ∧
        mt = .slice ma mrem (mrem + mex) ∧ mrem + ((List.range j).filter (gone_ lost)).length = SM ∧ (0 < mrem → ∃ mb moff, mao = some ⟨mb, moff, none⟩ ∧ ma = some ⟨mb, moff + ((List.range j).filter (gone_ lost)).length, none⟩) ∧
        Fill9 wr w4.heap.size d j True (fun j => ps.getD j []) ∧ Below w4.heap.size w4 wr) (fun _ _ i _ => d - (intOf i).toNat)
      case atStart =>
        refine ⟨0, 0, d, SM, _, _, Nat.zero_le _, rfl, by simp, rfl, rfl, fun _ => rfl, rfl, by simp, fun hpos => ?_, Fill9.start ((Blk.new w4 _ _).eq (toList_madeCells_one _ d)) (by simp) _ _, (Below.refl _ _).alloc (Nat.le_refl _) _⟩
        rcases HMC.out with h | ⟨mb, moff, h1, h2, h3⟩
        · omega
        · exact ⟨mb, moff, h1, by rw [h1]; simp⟩
      case round =>
        obtain ⟨j, lo, lrem, mrem, la, ma, hj, rfl, hlo, hlr, rfl, hla, rfl, hmr, hma, hfill, hbel⟩ := hrel
        by_cases hjd : j < d
        · obtain ⟨⟨ov, k1⟩, k2, k3⟩ := hfill.cell j hjd
          have HIC : Hid (IsC wr lv lost) := HL.out.to (HB4.out.trans (hbel.mono HB4.out.size))
          have HF : Hid (Fill9 wr w4.heap.size d j True (fun j => ps.getD j [])) := hfill
          have HLO : Hid (lo = ((List.range j).filter (left_ lost)).length) := hlo
          have HLA : Hid (0 < lrem → la = some ⟨g1, lo, none⟩) := hla
          have HMA : Hid (0 < mrem → ∃ mb moff, mao = some ⟨mb, moff, none⟩ ∧ ma = some ⟨mb, moff + ((List.range j).filter (gone_ lost)).length, none⟩) := hma
          have HMR : Hid (mrem + ((List.range j).filter (gone_ lost)).length = SM) := hmr
          have HLR : Hid (lrem + lo = d) := hlr
          have hlj : ((List.range j).filter (left_ lost)).length ≤ j := by
            have := List.length_filter_le (left_ lost) (List.range j); rwa [List.length_range] at this
          by_cases hm : (j : Int) ∈ lost
          · have hg : gone_ lost j = true := by simp [gone_, hm]
            have hle : left_ lost j = false := by simp [left_, hm]
            have HD : Hid (decide ((j : Int) ∈ lost) = true) := decide_eq_true hm
            have hba := back_at HFIT.out HYES.out hd2 hs HFEW.out HW.out j hjd hg
            have hlt : ((List.range j).filter (gone_ lost)).length < SM := by
              have := (List.getElem?_eq_some_iff.1 hba).1
              rw [← HSM.out] at this; exact this
            obtain ⟨mb, moff, hmao, rfl⟩ := hma (by omega)
            obtain ⟨a, rfl⟩ : ∃ a, mrem = a + 1 := ⟨mrem - 1, by omega⟩
            obtain ⟨mo, hmo⟩ : ∃ mo, mo = moff + ((List.range j).filter (gone_ lost)).length := ⟨_, rfl⟩
            rw [← hmo]
            obtain ⟨u, hu, hbs, hmbl⟩ : ∃ u, wr.cell? ⟨mb, mo, none⟩ = some u ∧ BsC w4 u (ps.getD j []) ∧ mb < w4.heap.size := by
              rcases HMC.out with h0 | ⟨mb', moff', h1, h2, h3⟩
              · omega
              · rw [hmao] at h1
                injection h1 with h1
                injection h1 with h1a h1b
                subst h1a h1b
                obtain ⟨u, h4, h5⟩ := h3 _ _ hba
                exact ⟨u, by rw [hmo, hbel.cell (p := ⟨mb, _, none⟩) h2]; exact h4, h5, h2⟩
            have HNE : Hid (BsNe wr w4.heap.size True u (ps.getD j [])) := (BsC.ne hbs (Nat.le_refl _)).to hbel
            have HF2 : Hid (Fill9 (wr.setCell ⟨w4.heap.size, j, none⟩ u) w4.heap.size d (j + 1) True (fun j => ps.getD j [])) := HF.out.step hjd HNE.out
            have HN1 : Hid ((List.range (j + 1)).filter (left_ lost) = (List.range j).filter (left_ lost)) := by show _ = _; rw [filter_next, hle]; simp
            have HN2 : Hid (((List.range (j + 1)).filter (gone_ lost)).length = ((List.range j).filter (gone_ lost)).length + 1) := by show _ = _; rw [filter_next, hg]; simp
            have HMO : Hid (mao = some ⟨mb, moff, none⟩ ∧ mo = moff + ((List.range j).filter (gone_ lost)).length) := ⟨hmao, hmo⟩
            obtain ⟨ua, uc, rfl⟩ : ∃ ua uc, u = .slice ua (ps.getD j []).length uc := by
              obtain ⟨ua, uc, h, _⟩ := hbs; exact ⟨ua, _, h⟩
            have hne : mb ≠ w4.heap.size := by omega
            have ha20 : a + 1 ≤ 20 := by omega
            clear hmao hmo hmr hba hbs hm hg hle hfill hlo hlt hlj hla hma hlr HMA
            generalize (ps.getD j []).length = pl at hu HF2
            go_wp2_with (go_at_call 57; refine (contains_any lost j lv _ HIC.out hlb).mono ?_; rintro e w' ⟨rfl, rfl⟩; rw [HD.out])
            go_region
            all_goals
              go_wp2
              go_roundw
              case rel =>
                refine ⟨j + 1, lo, lrem, a, la, _, by omega, by go_num, by rw [HN1.out]; exact HLO.out, HLR.out, rfl, HLA.out, rfl, by rw [HN2.out]; have := HMR.out; omega, fun hpos => ⟨mb, moff, HMO.out.1, ?_⟩, HF2.out.to (Below.refl _ _).drew, (hbel.setCell (Nat.le_refl _) _).drew⟩
                rw [if_neg (by omega), HN2.out, ← Nat.add_assoc, ← HMO.out.2]
              case measure => simp [intOf]; omega
          · have hg : gone_ lost j = false := by simp [gone_, hm]
            have hle : left_ lost j = true := by simp [left_, hm]
            have HD : Hid (decide ((j : Int) ∈ lost) = false) := decide_eq_false hm
            have hba := left_at HFIT.out HYES.out j hjd hle
            obtain ⟨a, rfl⟩ : ∃ a, lrem = a + 1 := ⟨lrem - 1, by omega⟩
            obtain rfl := hla (by omega)
            obtain ⟨u, hu, hbs⟩ : ∃ u, wr.cell? ⟨g1, lo, none⟩ = some u ∧ BsC w4 u (ps.getD j []) := by
              obtain ⟨u, h4, h5⟩ := HLC.out _ _ hba
              exact ⟨u, by rw [hlo, hbel.cell (p := ⟨g1, _, none⟩) hw14]; exact h4, h5⟩
            have HNE : Hid (BsNe wr w4.heap.size True u (ps.getD j [])) := (BsC.ne hbs (Nat.le_refl _)).to hbel
            have HF2 : Hid (Fill9 (wr.setCell ⟨w4.heap.size, j, none⟩ u) w4.heap.size d (j + 1) True (fun j => ps.getD j [])) := HF.out.step hjd HNE.out
            have HN1 : Hid (((List.range (j + 1)).filter (left_ lost)).length = ((List.range j).filter (left_ lost)).length + 1) := by show _ = _; rw [filter_next, hle]; simp
            have HN2 : Hid ((List.range (j + 1)).filter (gone_ lost) = (List.range j).filter (gone_ lost)) := by show _ = _; rw [filter_next, hg]; simp
            obtain ⟨ua, uc, rfl⟩ : ∃ ua uc, u = .slice ua (ps.getD j []).length uc := by
              obtain ⟨ua, uc, h, _⟩ := hbs; exact ⟨ua, _, h⟩
            have hne : g1 ≠ w4.heap.size := by omega
            have ha20 : a + 1 ≤ 20 := by omega
            clear hmr hba hbs hm hg hle hfill hlo hlj hla hma hlr HLA
            generalize (ps.getD j []).length = pl at hu HF2
            go_wp2_with (go_at_call 57; refine (contains_any lost j lv _ HIC.out hlb).mono ?_; rintro e w' ⟨rfl, rfl⟩; rw [HD.out])
            go_region
            all_goals
              go_wp2
              go_roundw
              case rel =>
                refine ⟨j + 1, lo + 1, a, mrem, _, ma, by omega, by go_num, by rw [HN1.out, ← HLO.out], by have := HLR.out; omega, rfl, fun hpos => ?_, rfl, by rw [HN2.out]; exact HMR.out, by rw [HN2.out]; exact HMA.out, HF2.out.to (Below.refl _ _).drew, (hbel.setCell (Nat.le_refl _) _).drew⟩
                rw [if_neg (by omega)]
              case measure => simp [intOf]; omega
        · obtain rfl : d = j := by omega
          have HRF : Hid (RowsC wr (.slice (some ⟨w4.heap.size, 0, none⟩) d d) ps) := hfill.rowsC _ HFIT.out.len (fun k hk => by simp [hk])
          have HB9 : Hid (Below w.heap.size w wr) := HB4.out.trans (hbel.mono HB4.out.size)
          have hsz4 := HB4.out.size
          clear hfill hbel
          go_wp2
          go_ret
          exact ⟨w4.heap.size, hsz4, rfl, HRF.out, HB9.out⟩
end Go.Proofs.YtokmllopbfmadabDoor.Ref

namespace Go.Proofs.YtokmllopbfmadabDoor.Ref
open Go.RowKit Mem FieldWalks Tab ByTab Parts
open Gf (Bytes)

/-- The numbers of bytes.Join and of its types here. -/
def jren : Go.Shelf.Ren := ⟨fun k => if k = 14 then 48 else 58, fun t => if t = 22 then 56 else if t = 26 then 82 else if t = 3 then 3 else if t = 4 then 4 else if t = 5 then 5 else if t = 9 then 9 else if t = 20 then 20 else 0, fun x => x⟩
theorem lays : SlLaysJ.n14 Tryd.prog jren where
  mixed := by kernel_rfl
  f14 := by kernel_rfl
  f15 := by kernel_rfl
  t0 := by kernel_rfl
  a0 := fun w => by kernel_rfl
  z0 := fun w => by kernel_rfl
  v0 := fun w => by kernel_rfl
  t3 := by kernel_rfl
  a3 := fun w => by kernel_rfl
  z3 := fun w => by kernel_rfl
  v3 := fun w => by kernel_rfl
  t4 := by kernel_rfl
  a4 := fun w => by kernel_rfl
  z4 := fun w => by kernel_rfl
  v4 := fun w => by kernel_rfl
  t9 := by kernel_rfl
  a9 := fun w => by kernel_rfl
  z9 := fun w => by kernel_rfl
  v9 := fun w => by kernel_rfl
  t20 := by kernel_rfl
  a20 := fun w => by kernel_rfl
  z20 := fun w => by kernel_rfl
  v20 := fun w => by kernel_rfl
  t22 := by kernel_rfl
  a22 := fun w => by kernel_rfl
  z22 := fun w => by kernel_rfl
  v22 := fun w => by kernel_rfl
  t26 := by kernel_rfl
  a26 := fun w => by kernel_rfl
  z26 := fun w => by kernel_rfl
  v26 := fun w => by kernel_rfl
  t5 := by kernel_rfl
  z5 := fun w => by kernel_rfl
  i5 := by kernel_rfl

def u8s (l : List Nat) : List UInt8 := l.map UInt8.ofNat
theorem u8_toNat (n : Nat) (h : n < 256) : (UInt8.ofNat n).toNat = n := by
  simp [UInt8.toNat_ofNat']; omega
theorem u8s_inj {a b : List Nat} (ha : Bytes a) (hb : Bytes b) (h : u8s a = u8s b) : a = b := by
  have hl : a.length = b.length := by have := congrArg List.length h; simpa [u8s] using this
  apply List.ext_getElem hl
  intro k h1 h2
  have e : (u8s a)[k]? = (u8s b)[k]? := by rw [h]
  simp only [u8s, List.getElem?_map, List.getElem?_eq_getElem h1, List.getElem?_eq_getElem h2, Option.map_some, Option.some.injEq] at e
  have := congrArg UInt8.toNat e
  rwa [u8_toNat _ (ha.at k h1), u8_toNat _ (hb.at k h2)] at this
theorem holds_of_bs {w : World} {v : Value} {l : List Nat} (h : BsAt w v l) (hb : Bytes l) : Lib.HoldsBytes w v (u8s l) := by
  obtain ⟨ao, cap, rfl, h⟩ := h
  refine ⟨ao, cap, by simp [u8s], fun e => ?_, fun a ha i x hx => ?_⟩
  · rcases h with h | ⟨b, off, h1, _⟩
    · simp [u8s, h]
    · rw [e] at h1; cases h1
  · have hi : i < l.length := by
      have := (List.getElem?_eq_some_iff.1 hx).1; simpa [u8s] using this
    rcases h with h | ⟨b, off, h1, h2, h3⟩
    · rw [h] at hi; simp at hi
    · rw [ha] at h1
      injection h1 with h1
      subst h1
      rw [Addr.add_lit, h3 i hi]
      simp only [u8s, List.getElem?_map, List.getElem?_eq_getElem hi, Option.map_some, Option.some.injEq] at hx
      rw [← hx, u8_toNat _ (hb.at i hi)]
theorem bsC_of_fresh {B : Nat} {w : World} {v : Value} {l : List Nat} (hb : Bytes l) (h : Lib.FreshBytes B w v (u8s l)) (hlt : ∀ g c, v = .slice (some ⟨g, 0, none⟩) l.length c → l ≠ [] → g < w.heap.size) : BsC w v l := by
  obtain ⟨g, cap, zs, hv, h1, h2, h3, h4, h5, h6, h7, h8⟩ := h
  have hll : (u8s l).length = l.length := by simp [u8s]
  rw [hll] at hv h2 h6
  refine ⟨some ⟨g, 0, none⟩, cap - l.length, by rw [hv]; congr 1; omega, ?_⟩
  by_cases he : l = []
  · exact .inl he
  · refine .inr ⟨g, 0, rfl, hlt g cap hv he, fun k hk => ?_⟩
    rw [Nat.zero_add, h7 k (by omega)]
    have hkz : k < zs.length := by omega
    have e : zs.getD k 0 = zs[k] := by simp [hkz]
    rw [e]
    have hz := h5 zs[k] (List.getElem_mem _)
    have e2 : (Lib.bytesOf (zs.take l.length))[k]? = (u8s l)[k]? := by rw [h6]
    simp only [Lib.bytesOf, u8s, List.getElem?_map, List.getElem?_take_of_lt hk, List.getElem?_eq_getElem hkz, List.getElem?_eq_getElem hk, Option.map_some, Option.some.injEq] at e2
    have := congrArg UInt8.toNat e2
    rw [u8_toNat _ (by omega), u8_toNat _ (hb.at k hk)] at this
    congr 2; omega
theorem u8s_flatten (ps : List (List Nat)) : u8s ps.flatten = (ps.map u8s).flatten := by
  unfold u8s; rw [List.map_flatten]
theorem join_flat (xs : List (List UInt8)) : Lib.join xs [] = xs.flatten := by
  cases xs with
  | nil => rfl
  | cons x r => rw [Lib.join_cons]; simp [Lib.joinTail]
theorem lens_flat (xs : List (List UInt8)) : Lib.lens xs = xs.flatten.length := by simp [Lib.lens, List.length_flatten]
theorem bytes_flat {ps : List (List Nat)} (h : ∀ j, (h : j < ps.length) → Bytes ps[j]) : Bytes ps.flatten := by
  intro v hv
  obtain ⟨l, hl, hm⟩ := List.mem_flatten.1 hv
  obtain ⟨j, hj, rfl⟩ := List.mem_iff_getElem.1 hl
  exact h j hj v hm

/-- bytes.Join of rows, with nothing in between. -/
theorem join_any (ps : List (List Nat)) (d b : Nat) (w : World) (hd : 1 ≤ d) (hl : ps.length = d) (hr : RowsC w (.slice (some ⟨b, 0, none⟩) d d) ps) (hbytes : ∀ j, (h : j < ps.length) → Bytes ps[j]) (hd2 : d ≤ 100) (hs : ps.flatten.length ≤ 100000) :
    Calls Tryd.prog 48 #[.slice (some ⟨b, 0, none⟩) d d, .slice none 0 0] w fun e w' => ∃ v, e = .returned v ∧ BsC w' v ps.flatten ∧ Below w.heap.size w w' := by
  have hc : ∀ k, (h : k < ps.length) → ∃ u, w.cell? ⟨b, 0 + k, none⟩ = some u ∧ BsAt w u ps[k] := fun k hk => by
    obtain ⟨b', off, cap, he, h1, h2⟩ := hr.pos (by omega)
    injection he with he _ _
    injection he with he
    injection he with he1 he2
    subst he1 he2
    obtain ⟨u, h3, h4⟩ := h2 k hk
    exact ⟨u, h3, h4.bs⟩
  have hbf := bytes_flat hbytes
  by_cases h2 : 2 ≤ d
  · obtain ⟨vs, hvl, hvc, hvr⟩ := rows_cells hc
    have hP : Lib.PartsAt w ⟨b, 0, none⟩ vs (ps.map u8s) := by
      refine ⟨by simp [hvl], fun i v hv => by rw [Addr.add_lit]; exact hvc i v hv, fun i v l hv hl2 => ?_⟩
      have hi : i < ps.length := by
        have := (List.getElem?_eq_some_iff.1 hl2).1; simpa using this
      obtain ⟨u, h3, h4⟩ := hvr i hi
      rw [hv] at h3
      injection h3 with h3
      subst h3
      simp only [List.getElem?_map, List.getElem?_eq_getElem hi, Option.map_some, Option.some.injEq] at hl2
      rw [← hl2]
      exact holds_of_bs h4 (hbytes i hi)
    have hS : Lib.HoldsBytes w (.slice none 0 0) [] := ⟨none, 0, rfl, fun _ => rfl, fun a ha => by cases ha⟩
    have := Any.bytes_Join_many lays b 0 d d vs (ps.map u8s) (.slice none 0 0) [] w (by simp [hl]) h2 hP (Nat.le_refl _) hS (by omega) (by rw [lens_flat, ← u8s_flatten, show (u8s ps.flatten).length = ps.flatten.length from List.length_map _, List.length_nil, Nat.zero_mul]; omega)
    refine this.mono ?_
    rintro e w' ⟨v, rfl, hf, hb⟩
    rw [join_flat, ← u8s_flatten] at hf
    refine ⟨v, rfl, bsC_of_fresh hbf hf (fun g c hv hne => ?_), hb⟩
    obtain ⟨g', cap, zs, hv', _, hcp, _, _, _, _, h7, _⟩ := hf
    rw [hv] at hv'
    injection hv' with hv' _ _
    injection hv' with hv'
    injection hv' with hv'
    subst hv'
    have hpos : 0 < ps.flatten.length := List.length_pos_iff.2 hne
    exact block_lt_of_cell (h7 0 (by have : (u8s ps.flatten).length = ps.flatten.length := List.length_map _; omega))
  · obtain rfl : d = 1 := by omega
    obtain ⟨l0, hl0⟩ : ∃ l0, ps = [l0] := by
      match ps, hl with
      | [l0], _ => exact ⟨l0, rfl⟩
    subst hl0
    obtain ⟨u, hu, hbs⟩ := hc 0 (by simp)
    have hb0 : Bytes l0 := hbytes 0 (by simp)
    have hfl : [l0].flatten = l0 := by simp
    rw [hfl] at hbf hs ⊢
    obtain ⟨ao, cap, rfl, h1⟩ := hbs
    simp only [List.getElem_cons_zero] at h1 hu
    by_cases he : l0 = []
    · subst he
      refine (Any.bytes_Join_one_empty lays b 0 1 ao cap (.slice none 0 0) w hu).mono ?_
      rintro e w' ⟨rfl, rfl⟩
      exact ⟨_, rfl, ⟨none, 0, rfl, .inl rfl⟩, Below.refl _ _⟩
    · obtain ⟨b', off, rfl, h2, h3⟩ : ∃ b off, ao = some ⟨b, off, none⟩ ∧ b < w.heap.size ∧ ∀ k, (h : k < l0.length) → w.cell? ⟨b, off + k, none⟩ = some (.int .u8 (l0[k] : Nat)) := by
        rcases h1 with h | h
        · exact absurd h he
        · exact h
      have hpos : 0 < l0.length := List.length_pos_iff.2 he
      refine (Any.bytes_Join_one lays b 0 1 ⟨b', off, none⟩ cap (u8s l0) (.slice none 0 0) w (by simpa [u8s] using hu) (fun i x hx => ?_) (by simpa [u8s] using hpos) (by simp [u8s]; omega)).mono ?_
      · have hi : i < l0.length := by
          have := (List.getElem?_eq_some_iff.1 hx).1; simpa [u8s] using this
        rw [Addr.add_lit, h3 i hi]
        simp only [u8s, List.getElem?_map, List.getElem?_eq_getElem hi, Option.map_some, Option.some.injEq] at hx
        rw [← hx, u8_toNat _ (hb0.at i hi)]
      · rintro e w' ⟨v, rfl, hf, hb⟩
        refine ⟨v, rfl, bsC_of_fresh hb0 hf (fun g c hv hne => ?_), hb⟩
        obtain ⟨g', cap', zs, hv', _, hcp, _, _, _, _, h7, _⟩ := hf
        rw [hv] at hv'
        injection hv' with hv' _ _
        injection hv' with hv'
        injection hv' with hv'
        subst hv'
        exact block_lt_of_cell (h7 0 (by have : (u8s l0).length = l0.length := List.length_map _; omega))
end Go.Proofs.YtokmllopbfmadabDoor.Ref
