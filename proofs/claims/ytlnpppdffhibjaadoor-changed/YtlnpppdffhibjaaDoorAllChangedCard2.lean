import Derived.Test.YtlnpppdffhibjaaDoorAllChangedCard1
import Derived.Test.YtlnpppdffhibjaaDoorMemC
import Derived.Deep.CutRange
import Derived.Test.YtlnpppdffhibjaaDoorRefInts
import Derived.Test.YtlnpppdffhibjaaDoorPlanMem
import Derived.Test.YtlnpppdffhibjaaDoorAppend
import Derived.Laws.CopyOwn
import Derived.WalkSpells
import Derived.OpenShut
import Derived.Deep.Strs
import Derived.ChangeSlices
import Derived.SizedLaws
import Derived.Carry
import Derived.Deep.SlicePairs
import Derived.Test.YtlnpppdffhibjaaDoorCards
import Derived.Test.YtlnpppdffhibjaaDoorTie
import Derived.Deep.DeepHandedRow
import Derived.Lib.LaidTab
import Derived.LaidMore
import Derived.ChangeMaps5
namespace Go.Proofs.YtlnpppdffhibjaaDoor.Plans
open Go.RowKit Mem FieldWalks Tab ByTab Planes
open Gf (sumTo addTo Bytes)

/-- The rows of the sums: blocks of their own, one behind the other. -/
def rowsV (B L m : Nat) : List Value := (List.range m).map fun i => .slice (some ⟨B + 1 + i, 0, none⟩) L L
theorem rowsV_length (B L m : Nat) : (rowsV B L m).length = m := by simp [rowsV]
theorem rowsV_at {B L m i : Nat} (h : i < m) : (rowsV B L m)[i]? = some (.slice (some ⟨B + 1 + i, 0, none⟩) L L) := by simp [rowsV, h]
structure SumsSt (wx : World) (B m L : Nat) (g : Nat → Nat → Nat) : Prop where
  row : Blk wx B 93 (rowsV B L m)
  each : ∀ i, i < m → Blk wx (B + 1 + i) 5 (bytesV (rowF L (g i)))
theorem SumsSt.to {w w' : World} {B m L : Nat} {g : Nat → Nat → Nat} (h : SumsSt w B m L g) (hb : Below w.heap.size w w') : SumsSt w' B m L g := ⟨h.row.to hb, fun i hi => (h.each i hi).to hb⟩
theorem SumsSt.but {w w' : World} {B m L S : Nat} {g : Nat → Nat → Nat} {us : List Value} (h : SumsSt w B m L g) (hb : But S w w') (hS : Blk w S 138 us) : SumsSt w' B m L g :=
  ⟨hb.blk h.row (h.row.type_ne hS (by decide)), fun i hi => hb.blk (h.each i hi) ((h.each i hi).type_ne hS (by decide))⟩
theorem SumsSt.congr {w : World} {B m L : Nat} {g g' : Nat → Nat → Nat} (h : SumsSt w B m L g) (e : ∀ i, i < m → ∀ q, q < L → g i q = g' i q) : SumsSt w B m L g' :=
  ⟨h.row, fun i hi => (h.each i hi).eq (by rw [rowF_congr (e i hi)])⟩
/-- One row is written anew. -/
theorem SumsSt.put {w w' : World} {B m L i : Nat} {g : Nat → Nat → Nat} {g1 : Nat → Nat} (h : SumsSt w B m L g) (hb : But (B + 1 + i) w w') (hi : Blk w' (B + 1 + i) 5 (bytesV (rowF L g1))) : SumsSt w' B m L (fun k => if k = i then g1 else g k) := by
  refine ⟨hb.blk h.row (by omega), fun k hk => ?_⟩
  by_cases e : k = i
  · subst e; simp only [if_true]; exact hi
  · rw [if_neg e]; exact hb.blk (h.each k hk) (by omega)
theorem SumsSt.rows {w : World} {B L : Nat} {g : Nat → Nat → Nat} {rows ps : List (List Nat)} (h : SumsSt w B rows.length L g) (hl : ∀ j, (h : j < ps.length) → ps[j].length = L) (hg : ∀ i, i < rows.length → ∀ q, q < L → g i q = (sumTo (rows.getD i []) ps L ps.length).getD q 0) :
    RowsC w (.slice (some ⟨B, 0, none⟩) rows.length rows.length) (sums rows ps L) := by
  have hsl : (sums rows ps L).length = rows.length := by simp [sums]
  refine ⟨_, 0, by rw [hsl, Nat.add_zero], .inr ⟨B, 0, rfl, h.row.lt, fun k hk => ?_⟩⟩
  rw [hsl] at hk
  refine ⟨_, by rw [Nat.zero_add]; exact h.row.cell_some (rowsV_at hk), ?_⟩
  have e : (sums rows ps L)[k]'(by omega) = rowF L (g k) := by
    have hs : (sumTo rows[k] ps L ps.length).length = L := Gf.sumTo_length _ ps L hl _ (Nat.le_refl _)
    have e0 : rows.getD k [] = rows[k] := by simp [hk]
    simp only [sums, List.getElem_map]
    apply List.ext_getElem
    · simp [hs]
    · intro q h1 h2
      rw [rowF_at, hg k hk q (by omega), e0]
      simp [h1]
  rw [e]
  exact OwnAt.bsC ⟨B + 1 + k, by simp, h.each k hk⟩
/-- The slots of the pieces' parts: the first j are filled. -/
def fillF (ps : List (List Nat)) (st len j : Nat) : Nat → Nat := fun i => if i < 8 * j then slotOf (((ps.getD (i / 8) []).drop st).take len) (i % 8) else 0
theorem fillF_zero (ps : List (List Nat)) (st len : Nat) : fillF ps st len 0 = fun _ => 0 := by funext i; simp [fillF]
theorem fillF_next (ps : List (List Nat)) (st len j : Nat) : filled (fillF ps st len j) (8 * j) (((ps.getD j []).drop st).take len) = fillF ps st len (j + 1) := by
  funext i
  unfold filled fillF
  by_cases h : 8 * j ≤ i ∧ i < 8 * j + 8
  · rw [if_pos h, if_pos (by omega), show i / 8 = j by omega, show i - 8 * j = i % 8 by omega]
  · rw [if_neg h]
    by_cases h2 : i < 8 * j
    · rw [if_pos h2, if_pos (by omega)]
    · rw [if_neg h2, if_neg (by omega)]
theorem fillF_lt (ps : List (List Nat)) (st len j : Nat) : ∀ i, fillF ps st len j i < 18446744073709551616 := by
  intro i; unfold fillF; split
  · exact slotOf_lt _ _
  · omega
theorem fillF_bit (ps : List (List Nat)) (st len : Nat) (hlen : len ≤ 64) (k : Nat) (hk : k < len) (j : Nat) (hj : j < ps.length) (b : Nat) (hb : b < 8) : (fillF ps st len ps.length (8 * j + b)).testBit k = ((ps.getD j []).getD (st + k) 0).testBit b := by
  unfold fillF
  rw [if_pos (by omega), show (8 * j + b) / 8 = j by omega, show (8 * j + b) % 8 = b by omega, slotOf, Gf.bitsOf_testBit]
  have e : (((ps.getD j []).drop st).take len).getD k 0 = (ps.getD j []).getD (st + k) 0 := by
    generalize ps.getD j [] = p
    rw [List.getD_eq_getElem?_getD, List.getElem?_take_of_lt hk, List.getElem?_drop, ← List.getD_eq_getElem?_getD]
  rw [e]; simp [show k < 64 by omega]
/-- What the sums hold behind st places. -/
def sumF (rows ps : List (List Nat)) (L st : Nat) : Nat → Nat → Nat := fun i q => if q < st then (sumTo (rows.getD i []) ps L ps.length).getD q 0 else 0
theorem BsC.cut {w : World} {v : Value} {l : List Nat} (h : BsC w v l) (st en : Nat) (h1 : st < en) (h2 : en ≤ l.length) : ∃ b off ex, v = .slice (some ⟨b, off, none⟩) l.length (l.length + ex) ∧ b < w.heap.size ∧ BsAt w (.slice (some ⟨b, off + st, none⟩) (en - st) (l.length + ex - st)) ((l.drop st).take (en - st)) := by
  obtain ⟨ao, ex, rfl, hx⟩ := h
  rcases hx with rfl | ⟨b, off, rfl, hlt, hc⟩
  · simp at h2; omega
  · refine ⟨b, off, ex, rfl, hlt, some ⟨b, off + st, none⟩, l.length + ex - st, ?_, .inr ⟨b, off + st, rfl, hlt, fun k hk => ?_⟩⟩
    · rw [List.length_take, List.length_drop, Nat.min_eq_left (by omega)]
    · rw [List.length_take, List.length_drop] at hk
      rw [Nat.add_assoc, hc (st + k) (by omega)]
      simp
/-- What the sums hold while the places from st to en are written: the first i have them. -/
def sumG (rows ps : List (List Nat)) (L st en i : Nat) : Nat → Nat → Nat := fun k => if k < i then sumF rows ps L en k else sumF rows ps L st k
theorem sumG_zero (rows ps : List (List Nat)) (L st en : Nat) : sumG rows ps L st en 0 = sumF rows ps L st := by funext k; simp [sumG]
/-- The words that the plan leaves. -/
def ran (rows ps : List (List Nat)) (st len : Nat) : Nat → Nat := runOn (fillF ps st len ps.length) (stepsTo rows ps.length rows.length)
theorem ran_lt (rows ps : List (List Nat)) (st len : Nat) : ∀ i, ran rows ps st len i < 18446744073709551616 := runOn_lt _ _ (fillF_lt _ _ _ _)
theorem sumG_next (rows ps : List (List Nat)) (L st en len i : Nat) (hfit : Fit rows ps L) (h1 : st < en) (h3 : en ≤ st + 64) (hlen : len = en - st) (hi : i < rows.length) :
    ∀ k, k < rows.length → ∀ q, q < L → (if k = i then readTo (sumF rows ps L st i) (ran rows ps st len) (8 * (ps.length + i)) st (en - st) else sumG rows ps L st en i k) q = sumG rows ps L st en (i + 1) k q := by
  intro k hk q hq
  by_cases e : k = i
  · subst e
    have eg : sumG rows ps L st en (k + 1) k q = sumF rows ps L en k q := by unfold sumG; rw [if_pos (by omega)]
    rw [if_pos rfl, eg]
    by_cases hq1 : q < st
    · have e1 : readTo (sumF rows ps L st k) (ran rows ps st len) (8 * (ps.length + k)) st (en - st) q = sumF rows ps L st k q := by unfold readTo; rw [if_neg (by omega)]
      rw [e1]; unfold sumF; rw [if_pos hq1, if_pos (by omega)]
    · by_cases hq2 : q < en
      · have e0 : rows.getD k [] = rows[k] := by simp [hk]
        have e1 : readTo (sumF rows ps L st k) (ran rows ps st len) (8 * (ps.length + k)) st (en - st) q = byteOf (ran rows ps st len) (8 * (ps.length + k)) (q - st) := by unfold readTo; rw [if_pos (by omega)]
        have e2 : sumF rows ps L en k q = (sumTo (rows.getD k []) ps L ps.length).getD q 0 := by unfold sumF; rw [if_pos hq2]
        have := byte_sum (fillF ps st len ps.length) rows ps L (q - st) (st + (q - st)) k hk (by rw [e0]; exact hfit.rbytes k hk) hfit.len hfit.pbytes (fun j hj => by unfold fillF; rw [if_neg (by omega)]) (fun j hj b hb => fillF_bit ps st len (by omega) (q - st) (by omega) j hj b hb)
        rw [show st + (q - st) = q by omega] at this
        rw [e1, e2]; exact this
      · have e1 : readTo (sumF rows ps L st k) (ran rows ps st len) (8 * (ps.length + k)) st (en - st) q = sumF rows ps L st k q := by unfold readTo; rw [if_neg (by omega)]
        rw [e1]; unfold sumF; rw [if_neg hq1, if_neg hq2]
  · rw [if_neg e]
    unfold sumG
    by_cases h : k < i
    · rw [if_pos h, if_pos (by omega)]
    · rw [if_neg h, if_neg (by omega)]
theorem sumG_all (rows ps : List (List Nat)) (L st en : Nat) (h3 : en ≤ st + 64) (h4 : en = L ∨ en = st + 64) : ∀ k, k < rows.length → ∀ q, q < L → sumG rows ps L st en rows.length k q = sumF rows ps L (st + 64) k q := by
  intro k hk q hq
  unfold sumG
  rw [if_pos hk]
  unfold sumF
  rcases h4 with h4 | h4
  · by_cases h : q < st + 64
    · rw [if_pos (by omega), if_pos h]
    · omega
  · rw [h4]
end Go.Proofs.YtlnpppdffhibjaaDoor.Plans

namespace Go.Proofs.YtlnpppdffhibjaaDoor.Plans
open Go.RowKit Mem FieldWalks Tab ByTab Planes
open Gf (sumTo addTo Bytes)

set_option maxRecDepth 100000 in
set_option maxHeartbeats 2000000 in
theorem sumsByPlan_any (rows ps : List (List Nat)) (L : Nat) (rv pv : Value) (w : World) (ht : Table w) (hr : RowsAt w rv rows) (hp : RowsC w pv ps) (hfit : Fit rows ps L) :
    Calls Tryd.prog 86 #[rv, pv] w fun e w' => ∃ v, e = .returned v ∧ RowsC w' v (sums rows ps L) ∧ Below w.heap.size w w' := by
  have hr0 := hr
  obtain ⟨rao, rcap, rfl, hrc⟩ := hr
  obtain ⟨pb, poff, pcap, rfl, hplt, hpc⟩ := hp.pos hfit.some
  have HR : Hid (RowsAt w (.slice rao rows.length rcap) rows) := hr0
  have HPC : Hid (∀ k, (h : k < ps.length) → ∃ u, w.cell? ⟨pb, poff + k, none⟩ = some u ∧ BsC w u ps[k]) := hpc
  have hfew := hfit.few
  have hless := hfit.less
  have hsh := hfit.short
  have hsome := hfit.some
  have HFIT : Hid (Fit rows ps L) := hfit
  obtain ⟨u0, hu0, ao0, ex0, rfl, hx0⟩ := hpc 0 hfit.some
  rw [hfit.len 0 hfit.some, Nat.add_zero] at hu0
  clear hr0 hrc hpc hx0 hp hfit
  go_enter Tryd.func86, Tryd.ntmps86
  go_wp2_with fail
  refine (stepsOf_any rows ps.length _ _ ht HR.out HFIT.out.wide HFIT.out.rbytes hfew hless).mono ?_
  rintro e w1 ⟨sv, rfl, hss, hb1⟩
  have HSS : Hid (StepsAt w1 sv (stepsTo rows ps.length rows.length)) := hss
  rw [← hb1.cell (p := ⟨pb, poff, none⟩) hplt] at hu0
  have hmr := fun w => make_rows rows.length (by omega) w
  have hmb := fun w => make_bytes L (by omega) w
  clear hss
  go_wp2
  clear hu0
  obtain ⟨B, hB⟩ : ∃ B, B = w1.heap.size := ⟨_, rfl⟩
  go_loopw [30] (fun iv wr => ∃ i : Nat, i ≤ rows.length ∧ iv = .int .i64 i ∧ wr.heap.size = w1.heap.size + 1 + i ∧ Blk wr w1.heap.size 93 (mix (rowsV w1.heap.size L rows.length) (List.replicate rows.length (.slice none 0 0)) i) ∧ (∀ k, k < i → Blk wr (w1.heap.size + 1 + k) 5 (bytesV (rowF L (fun _ => 0)))) ∧ Below w1.heap.size w1 wr) (fun iv _ => rows.length - (intOf iv).toNat)
  case atStart =>
    refine ⟨0, Nat.zero_le _, rfl, by simp, ?_, fun k hk => by omega, (Below.refl _ _).alloc (Nat.le_refl _) _⟩
    rw [mix_zero]; exact (Blk.new w1 _ _).eq (toList_madeCells_one _ _)
  case round =>
    obtain ⟨i, hi, rfl, hsz, hrow, heach, hbel⟩ := hrel
    by_cases hlt : i < rows.length
    · have hc1 := hrow.cell_some (k := i) (v := .slice none 0 0) (by rw [mix_at (by simp [rowsV_length]) (by simpa using hlt)]; simp)
      have hf1 := hrow.free i
      have HROW : Hid (Blk wr w1.heap.size 93 (mix (rowsV w1.heap.size L rows.length) (List.replicate rows.length (.slice none 0 0)) i)) := hrow
      have HEACH : Hid (∀ k, k < i → Blk wr (w1.heap.size + 1 + k) 5 (bytesV (rowF L (fun _ => 0)))) := heach
      have hBlt := hrow.lt
      have HSZ : Hid (wr.heap.size = w1.heap.size + 1 + i) := hsz
      clear hrow heach hsz
      go_wp2
      go_roundw
      case rel =>
        have hset := HROW.out.set i (.slice (some ⟨wr.heap.size, 0, none⟩) L L)
        have hsz := HSZ.out
        refine ⟨i + 1, by omega, by go_num, by simp [World.setCell, hsz]; omega, (hset.alloc _).eq ?_, fun k hk => ?_, (hbel.setCell (Nat.le_refl _) _).alloc (by rw [size_setCell]; omega) _⟩
        · rw [← mix_set (k := i) (by simp [rowsV_length]) (by simpa using hlt)]
          simp [rowsV, hsz]
        · by_cases e : k = i
          · subst e
            have := made_bytes (wr.setCell ⟨w1.heap.size, k, none⟩ (.slice (some ⟨wr.heap.size, 0, none⟩) L L)) L
            rw [size_setCell, hsz] at this
            rw [rowF_zero, hsz]; exact this
          · exact ((HEACH.out k (by omega)).other (by show w1.heap.size + 1 + k ≠ w1.heap.size; omega) _).alloc _
      case measure => simp [intOf]; omega
    · obtain rfl : rows.length = i := by omega
      have hall := mix_all (new := rowsV w1.heap.size L rows.length) (old := List.replicate rows.length (.slice none 0 0)) (by simp [rowsV_length])
      rw [List.length_replicate] at hall
      rw [hall] at hrow
      have HST : Hid (SumsSt wr w1.heap.size rows.length L (sumF rows ps L 0)) := ⟨hrow, fun i hi => (heach i hi).eq (by rw [rowF_congr (g := sumF rows ps L 0 i)]; intro q hq; simp [sumF])⟩
      have HBO : Hid (Below w1.heap.size w1 wr) := hbel
      obtain ⟨wo, rfl⟩ : ∃ wo, wo = wr := ⟨_, rfl⟩
      obtain ⟨M, hM⟩ : ∃ M, M = 8 * (ps.length + rows.length) := ⟨_, rfl⟩
      have eM : 8 * ((ps.length : Int) + (rows.length : Int)) = (M : Int) := by omega
      have HM : Hid (M = 8 * (ps.length + rows.length)) := hM
      have hM2 : M ≤ 1600 := by omega
      have hmw := fun w => make_words M (by omega) w
      clear hall hrow heach hbel hsz hmr hmb hM
      go_wp2
      go_loopw [9] (fun sv wx => ∃ st : Nat, st ≤ L + 63 ∧ sv = .int .i64 st ∧ SumsSt wx w1.heap.size rows.length L (sumF rows ps L st) ∧ Below w1.heap.size w1 wx) (fun sv _ => L - (intOf sv).toNat)
      case atStart => exact ⟨0, Nat.zero_le _, rfl, HST.out, HBO.out⟩
      case round =>
        clear HST HBO
        obtain ⟨st, hst, rfl, hS, hbx⟩ := hrel
        obtain ⟨wi, rfl⟩ : ∃ wi, wi = wr := ⟨_, rfl⟩
        have HSU : Hid (SumsSt wi w1.heap.size rows.length L (sumF rows ps L st)) := hS
        clear hS
        by_cases hlt : st < L
        · go_upto_region 12 with fail
          go_cut [10] from 39 to 100 (fun s wx => ∃ en : Nat, st < en ∧ en ≤ L ∧ en ≤ st + 64 ∧ (en = L ∨ en = st + 64) ∧ s = .int .i64 en ∧ wi = wx)
          case first =>
            by_cases hle : st + 64 ≤ L
            · go_wp2
              go_meet
              case rel => exact ⟨st + 64, by omega, by omega, by omega, .inr rfl, by go_num, rfl⟩
            · go_wp2
              go_meet
              case rel => exact ⟨L, by omega, by omega, by omega, .inl rfl, by go_num, rfl⟩
          case rest =>
            obtain ⟨en, h1, h2, h3, h4, rfl, rfl⟩ := hcut
            have hszi := hbx.size
            have hsz1 := hb1.size
            have hbwi : Below w.heap.size w wi := hb1.trans (hbx.mono hsz1)
            obtain ⟨len, hlen⟩ : ∃ len, len = en - st := ⟨_, rfl⟩
            have HLEN : Hid (len = en - st) := hlen
            have HZ : Hid (Blk (wi.alloc (.cells (madeCells #[.int .u64 0] M) 138)) wi.heap.size 138 (wordsV (rowF M (fillF ps st len 0)))) := by
              show Blk _ _ _ _
              rw [fillF_zero, rowF_zero]; exact made_words wi M
            have HBW3 : Hid (Below w.heap.size w (wi.alloc (.cells (madeCells #[.int .u64 0] M) 138))) := hbwi.alloc (by omega) _
            clear hlen hbwi
            go_wp2
            go_loopw [57] (fun jv wq => ∃ j : Nat, j ≤ ps.length ∧ jv = .int .i64 j ∧ Blk wq wi.heap.size 138 (wordsV (rowF M (fillF ps st len j))) ∧ But wi.heap.size (wi.alloc (.cells (madeCells #[.int .u64 0] M) 138)) wq) (fun jv _ => ps.length - (intOf jv).toNat)
            case atStart => exact ⟨0, Nat.zero_le _, rfl, HZ.out, But.refl _ _⟩
            case round =>
              clear HZ
              obtain ⟨j, hj, rfl, hsl, hbut⟩ := hrel
              by_cases hjlt : j < ps.length
              · obtain ⟨u, hu, hbs⟩ := HPC.out j hjlt
                have hbq : Below w.heap.size w wr := hbut.below HBW3.out (by omega) (by have := HBW3.out.size; omega)
                rw [← hbq.cell (p := ⟨pb, poff + j, none⟩) hplt] at hu
                have hlj := HFIT.out.len j hjlt
                obtain ⟨b, off, ex, rfl, hblt, hcut⟩ := BsC.cut hbs st en h1 (by omega)
                rw [hlj] at hu hcut
                have e1 : ps.getD j [] = ps[j] := by simp [hjlt]
                have HCUT : Hid (BsAt wr (.slice (some ⟨b, off + st, none⟩) (en - st) (L + ex - st)) ((ps[j].drop st).take len)) := by
                  rw [HLEN.out]; exact hcut.to hbq
                have hMj : 8 * j + 8 ≤ M := by have := HM.out; omega
                have HSL : Hid (Blk wr wi.heap.size 138 (wordsV (rowF M (fillF ps st len j)))) := hsl
                have HBT : Hid (But wi.heap.size (wi.alloc (.cells (madeCells #[.int .u64 0] M) 138)) wr) := hbut
                have HNX : Hid (filled (fillF ps st len j) (8 * j) ((ps[j].drop st).take len) = fillF ps st len (j + 1)) := by
                  show _ = _
                  rw [← e1]; exact fillF_next ps st len j
                have HBYT : Hid (Bytes ((ps[j].drop st).take len)) := fun x hx => HFIT.out.pbytes j hjlt x (List.mem_of_mem_drop (List.mem_of_mem_take hx))
                have z1 : (0 : Int) ≤ 8 * (j : Int) := by omega
                have z2 : (0 : Int) ≤ 8 * (j : Int) + 8 := by omega
                have z3 : 8 * (j : Int) ≤ max (8 * (j : Int) + 8) 0 := by omega
                have z4 : (8 * (j : Int)).toNat = 8 * j := by omega
                have z5 : (8 * (j : Int) + 8).toNat = 8 * j + 8 := by omega
                have z6 : 8 * (j : Int) + 8 ≤ (M : Int) := by omega
                have z7 : ¬ M = 8 * j := by omega
                have z8 : IntKind.i64.wrap (8 * (j : Int)) = 8 * (j : Int) := by rw [IntKind.wrap_i64]; omega
                have z9 : IntKind.i64.wrap (8 * (j : Int) + 8) = 8 * (j : Int) + 8 := by rw [IntKind.wrap_i64]; omega
                have q3 : st ≤ en := by omega
                have q4 : en ≤ L + ex := by omega
                have q5 : (en : Int) ≤ (L : Int) + (ex : Int) := by omega
                have q6 : ¬ L + ex = st := by omega
                clear hcut hsl hbut e1 hbs hlj
                go_wp2
                go_region_with (go_at_call 97; refine (fillSlots_any (fillF ps st len j) M (8 * j) _ wi.heap.size ((ps[j].drop st).take len) _ _ (by exact HSL.out) hMj (fun b hb => by unfold fillF; rw [if_neg (by omega)]) (by exact HCUT.out) (fun b' off' n' c' h => by injection h with h; injection h with h; injection h; omega) HBYT.out (by have := HLEN.out; rw [List.length_take]; omega)).mono ?_; rintro e w4 ⟨rfl, hblk4, hbut4⟩)
                all_goals
                  rw [HNX.out] at hblk4
                  have HB4 : Hid (Blk w4 wi.heap.size 138 (wordsV (rowF M (fillF ps st len (j + 1))))) := hblk4
                  have HU4 : Hid (But wi.heap.size (wi.alloc (.cells (madeCells #[.int .u64 0] M) 138)) w4) := HBT.out.drew.trans hbut4
                  clear hblk4 hbut4
                  go_wp2
                  go_roundw
                  case rel => exact ⟨j + 1, by omega, by go_num, HB4.out, HU4.out⟩
                  case measure => simp [intOf]; omega
              · obtain rfl : ps.length = j := by omega
                have HS3 : Hid (StepsAt wr sv (stepsTo rows ps.length rows.length)) := ((HSS.out.to hbx).to ((Below.refl _ _).alloc (Nat.le_refl _) _)).but hbut (made_words wi M) (by decide)
                have HSU3 : Hid (SumsSt wr w1.heap.size rows.length L (sumF rows ps L st)) := (HSU.out.to ((Below.refl _ _).alloc (Nat.le_refl _) _)).but hbut (made_words wi M)
                have HSL3 : Hid (Blk wr wi.heap.size 138 (wordsV (rowF M (fillF ps st len ps.length)))) := hsl
                have HBX3 : Hid (Below w1.heap.size w1 wr) := hbut.below (hbx.alloc hszi _) hszi (by simp; omega)
                have HOK3 : Hid (∀ k, (h : k < (stepsTo rows ps.length rows.length).length) → (stepsTo rows ps.length rows.length)[k].ok M) := fun k h => by rw [HM.out]; exact stepsTo_ok rows ps.length rows.length _ (Nat.le_refl _) _ (List.getElem_mem h)
                have HSN3 : Hid ((stepsTo rows ps.length rows.length).length ≤ 1000000) := by
                  have h1 := stepsTo_le rows ps.length rows.length
                  have h2 : 8 * ps.length * 8 * rows.length ≤ 8 * 100 * 8 * 100 := Nat.mul_le_mul (Nat.mul_le_mul (Nat.mul_le_mul_left _ hfew) (Nat.le_refl _)) hless
                  show _ ≤ _
                  omega
                obtain ⟨wf, rfl⟩ : ∃ wf, wf = wr := ⟨_, rfl⟩
                clear hbut hsl
                go_wp2_with fail
                refine (runSteps_any (fillF ps st len ps.length) M wi.heap.size M (stepsTo rows ps.length rows.length) sv _ HSL3.out HS3.out HOK3.out HSN3.out (fillF_lt _ _ _ _)).mono ?_
                rintro e w5 ⟨rfl, hblk5, hbut5⟩
                have HSU5 : Hid (SumsSt w5 w1.heap.size rows.length L (sumG rows ps L st en 0)) := by
                  show SumsSt _ _ _ _ _
                  rw [sumG_zero]; exact HSU3.out.but hbut5 HSL3.out
                have HSL5 : Hid (Blk w5 wi.heap.size 138 (wordsV (rowF M (ran rows ps st len)))) := hblk5
                have HBX5 : Hid (Below w1.heap.size w1 w5) := hbut5.below HBX3.out hszi (by have := HBX3.out.size; omega)
                clear hblk5 hbut5 HSU3 HSL3 HBX3 HS3 HOK3 HSN3 HSU
                go_wp2
                go_loopw [80] (fun iv wq => ∃ i : Nat, i ≤ rows.length ∧ iv = .int .i64 i ∧ SumsSt wq w1.heap.size rows.length L (sumG rows ps L st en i) ∧ Blk wq wi.heap.size 138 (wordsV (rowF M (ran rows ps st len))) ∧ Below w1.heap.size w1 wq) (fun iv _ => rows.length - (intOf iv).toNat)
                case atStart => exact ⟨0, Nat.zero_le _, rfl, HSU5.out, HSL5.out, HBX5.out⟩
                case round =>
                  clear HSU5 HSL5 HBX5
                  obtain ⟨i, hi6, rfl, hsu, hsl, hbq⟩ := hrel
                  by_cases hilt : i < rows.length
                  · have hrow := hsu.row.cell_some (rowsV_at hilt)
                    have heach := (hsu.each i hilt).eq (us := bytesV (rowF L (sumF rows ps L st i))) (by rw [rowF_congr (g := sumF rows ps L st i)]; intro q hq; unfold sumG; rw [if_neg (by omega)])
                    have HSU6 : Hid (SumsSt wr w1.heap.size rows.length L (sumG rows ps L st en i)) := hsu
                    have HEA6 : Hid (Blk wr (w1.heap.size + 1 + i) 5 (bytesV (rowF L (sumF rows ps L st i)))) := heach
                    have HSL6 : Hid (Blk wr wi.heap.size 138 (wordsV (rowF M (ran rows ps st len)))) := hsl
                    have HNX6 : Hid (∀ k, k < rows.length → ∀ q, q < L → (if k = i then readTo (sumF rows ps L st i) (ran rows ps st len) (8 * (ps.length + i)) st (en - st) else sumG rows ps L st en i k) q = sumG rows ps L st en (i + 1) k q) := sumG_next rows ps L st en len i HFIT.out h1 h3 HLEN.out hilt
                    have HBQ6 : Hid (Below w1.heap.size w1 wr) := hbq
                    obtain ⟨o, ho⟩ : ∃ o, o = 8 * (ps.length + i) := ⟨_, rfl⟩
                    rw [← ho] at HNX6
                    have eo : 8 * ((ps.length : Int) + (i : Int)) = (o : Int) := by omega
                    have hoM : o + 8 ≤ M := by have := HM.out; omega
                    have z1 : (0 : Int) ≤ (o : Int) + 8 := by omega
                    have z2 : (o : Int) ≤ max ((o : Int) + 8) 0 := by omega
                    have z3 : ((o : Int) + 8).toNat = o + 8 := by omega
                    have z4 : (o : Int) + 8 ≤ (M : Int) := by omega
                    have z5 : ¬ M = o := by omega
                    have z6 : IntKind.i64.wrap ((o : Int) + 8) = (o : Int) + 8 := by rw [IntKind.wrap_i64]; omega
                    have q1 : st ≤ en := by omega
                    have q2 : (en : Int) ≤ (L : Int) := by omega
                    have q3 : ¬ L = st := by omega
                    have hszq := hbq.size
                    clear hsu heach hsl hbq ho
                    go_wp2
                    go_region_with (go_at_call 99; refine (readSlots_any (ran rows ps st len) (sumF rows ps L st i) M o _ wi.heap.size (w1.heap.size + 1 + i) L st (en - st) _ _ (by exact HSL6.out) (by exact HEA6.out) hoM (fun i _ => ran_lt _ _ _ _ i) (by omega) (by omega) (fun k hk => by unfold sumF; rw [if_neg (by omega)])).mono ?_; rintro e w7 ⟨rfl, hblk7, hbut7⟩)
                    all_goals
                      have hsu7 := (SumsSt.put (w := wr.drew) ⟨by exact HSU6.out.row, fun i hi => by exact HSU6.out.each i hi⟩ hbut7 hblk7).congr HNX6.out
                      have HSU7 : Hid (SumsSt w7 w1.heap.size rows.length L (sumG rows ps L st en (i + 1))) := hsu7
                      have HSL7 : Hid (Blk w7 wi.heap.size 138 (wordsV (rowF M (ran rows ps st len)))) := hbut7.blk (by exact HSL6.out) (Blk.type_ne (w := wr) HSL6.out HEA6.out (by decide))
                      have HBX7 : Hid (Below w1.heap.size w1 w7) := hbut7.below HBQ6.out.drew (by omega) (by exact hszq)
                      clear hsu7 hblk7 hbut7
                      go_wp2
                      go_roundw
                      case rel => exact ⟨i + 1, by omega, by go_num, HSU7.out, HSL7.out, HBX7.out⟩
                      case measure => simp [intOf]; omega
                  · obtain rfl : rows.length = i := by omega
                    have HSU8 : Hid (SumsSt wr w1.heap.size rows.length L (sumF rows ps L (st + 64))) := hsu.congr (sumG_all rows ps L st en h3 h4)
                    clear hsu
                    go_wp2
                    go_roundw
                    case rel => exact ⟨st + 64, by omega, by go_num, HSU8.out, hbq⟩
                    case measure => simp [intOf]; omega
        · have HRS := HSU.out.rows (ps := ps) HFIT.out.len (fun i hi q hq => by unfold sumF; rw [if_pos (by omega)])
          have HRS2 : Hid (RowsC wi (.slice (some ⟨w1.heap.size, 0, none⟩) rows.length rows.length) (sums rows ps L)) := HRS
          have HBF : Hid (Below w.heap.size w wi) := hb1.trans (hbx.mono hb1.size)
          clear HRS HSU
          go_wp2
          go_ret
          exact ⟨_, rfl, HRS2.out, HBF.out⟩
end Go.Proofs.YtlnpppdffhibjaaDoor.Plans

namespace Go.Proofs.YtlnpppdffhibjaaDoor.Top
open Go.RowKit Mem FieldWalks Tab ByTab Parts

set_option maxRecDepth 100000 in
set_option maxHeartbeats 1000000 in
/-- ████ Sums, in each of the three ways. ████ -/
theorem sums_any : SumsOk := by
  intro x rows ps L rv pv w hx ht hr hp hfit
  rcases (show x = 0 ∨ x = 1 ∨ x = 2 by omega) with rfl | rfl | rfl
  · go_enter Tryd.func75, Tryd.ntmps75
    go_wp2_with fail
    refine (sumsByTables_any rows ps L rv pv _ ht hr hp.rows hfit).mono ?_
    rintro e w1 ⟨v, rfl, hrow, hb⟩
    go_wp2
    go_ret
    exact ⟨_, rfl, hrow, hb⟩
  · go_enter Tryd.func75, Tryd.ntmps75
    go_wp2_with fail
    refine (Planes.sumsByPlanes_any rows ps L rv pv _ ht hr hp.rows hfit).mono ?_
    rintro e w1 ⟨v, rfl, hrow, hb⟩
    go_wp2
    go_ret
    exact ⟨_, rfl, hrow, hb⟩
  · go_enter Tryd.func75, Tryd.ntmps75
    go_wp2_with fail
    refine (Plans.sumsByPlan_any rows ps L rv pv _ ht hr hp hfit).mono ?_
    rintro e w1 ⟨v, rfl, hrow, hb⟩
    go_wp2
    go_ret
    exact ⟨_, rfl, hrow, hb⟩
end Go.Proofs.YtlnpppdffhibjaaDoor.Top

namespace Go.Proofs.YtlnpppdffhibjaaDoor.Book
open Go.RowKit Mem FieldWalks Tab ByTab Parts Ref
open Plans (But infoInt)

def beyond : ByteArray := ⟨#[98, 101, 121, 111, 110, 100]⟩
def mine : ByteArray := ⟨#[109, 105, 110, 101]⟩
theorem infoStrSize : (Tryd.prog.info? 9).map (·.size) = some 1 := by kernel_rfl
theorem infoIntSize : (Tryd.prog.info? 3).map (·.size) = some 1 := by kernel_rfl
theorem make_lent (n : Nat) (hn : n ≤ 8796093022204) (w : World) :
    (Instr.makeSlice 38 (.int .i64 ((n : Int) + 4)) (.int .i64 ((n : Int) + 4))).run Tryd.prog w = .ok (.slice (some ⟨w.heap.size, 0, none⟩) (n + 4) (n + 4)) (w.alloc (.cells (madeCells #[.string ByteArray.empty] (n + 4)) 9)) := by
  obtain ⟨i, hi, hz0, hz1, hz2⟩ := info_parts infoStr
  have := run_make (P := Tryd.prog) w 38 9 i (.string ByteArray.empty) Tryd.underlying38 hi hz0 .i64 .i64 ((n : Int) + 4) ((n : Int) + 4) (by omega) (by omega) (by rw [hz2]; omega) (by omega)
  rw [hz1, show ((n : Int) + 4).toNat = n + 4 by omega, Nat.mul_one] at this
  exact this
theorem make_lentI (n : Nat) (hn : n ≤ 17592186044412) (w : World) :
    (Instr.makeSlice 45 (.int .i64 ((n : Int) + 4)) (.int .i64 ((n : Int) + 4))).run Tryd.prog w = .ok (.slice (some ⟨w.heap.size, 0, none⟩) (n + 4) (n + 4)) (w.alloc (.cells (madeCells #[.int .i64 0] (n + 4)) 3)) := by
  obtain ⟨i, hi, hz0, hz1, hz2⟩ := info_parts infoInt
  have := run_make (P := Tryd.prog) w 45 3 i (.int .i64 0) Tryd.underlying45 hi hz0 .i64 .i64 ((n : Int) + 4) ((n : Int) + 4) (by omega) (by omega) (by rw [hz2]; omega) (by omega)
  rw [hz1, show ((n : Int) + 4).toNat = n + 4 by omega, Nat.mul_one] at this
  exact this
theorem eql_nilT (a : Option Addr) (n c : Nat) (w : World) : (binOp .eql 38 (.slice a n c) (.slice none 0 0)).run Tryd.prog w = .ok (.bool a.isNone) w := Lib.run_eql_slice_nil w 38 9 a n c 0 0 Tryd.underlying38
theorem eql_nilI (a : Option Addr) (n c : Nat) (w : World) : (binOp .eql 45 (.slice a n c) (.slice none 0 0)).run Tryd.prog w = .ok (.bool a.isNone) w := Lib.run_eql_slice_nil w 45 3 a n c 0 0 Tryd.underlying45
/-- The list, k of the caller's things behind it, then nothing yet. -/
def lentTo (vs : List Value) (x z : Value) (k : Nat) : List Value := vs ++ (List.replicate k x ++ List.replicate (4 - k) z)
theorem lentTo_next (vs : List Value) (x z : Value) (n k : Nat) (hn : vs.length = n) (hk : k < 4) : (lentTo vs x z k).set (n + k) x = lentTo vs x z (k + 1) := by
  unfold lentTo
  rw [List.set_append_right _ _ (by omega), hn, show n + k - n = k by omega, List.set_append_right _ _ (by simp), List.length_replicate, Nat.sub_self]
  obtain ⟨m, hm⟩ : ∃ m, 4 - k = m + 1 := ⟨4 - k - 1, by omega⟩
  rw [hm, List.replicate_succ, List.set_cons_zero, show 4 - (k + 1) = m by omega, List.replicate_succ']
  simp
theorem lentTo_at (vs : List Value) (x z : Value) (n k : Nat) (hn : vs.length = n) (hk : k < 4) : (lentTo vs x z k)[n + k]? = some z := by
  unfold lentTo
  rw [List.getElem?_append_right (by omega), hn, show n + k - n = k by omega, List.getElem?_append_right (by simp), List.length_replicate, Nat.sub_self]
  obtain ⟨m, hm⟩ : ∃ m, 4 - k = m + 1 := ⟨4 - k - 1, by omega⟩
  rw [hm, List.replicate_succ]; rfl
theorem splice_made (vs : List Value) (z : Value) (n : Nat) (hn : vs.length = n) : splice (madeCells #[z] (n + 4)).toList 0 vs = lentTo vs z z 0 := by
  unfold splice lentTo
  rw [toList_madeCells_one]
  simp [hn]

set_option maxRecDepth 100000 in
theorem lendT_nil (w : World) : Calls Tryd.prog 47 #[.slice none 0 0] w fun e w' => e = .returned (.slice none 0 0) ∧ w' = w := by
  have hnil := fun w => eql_nilT none 0 0 w
  go_enter Tryd.func47, Tryd.ntmps47
  go_wp2
  go_ret
  exact ⟨rfl, rfl⟩
set_option maxRecDepth 100000 in
theorem lendI_nil (w : World) : Calls Tryd.prog 48 #[.slice none 0 0] w fun e w' => e = .returned (.slice none 0 0) ∧ w' = w := by
  have hnil := fun w => eql_nilI none 0 0 w
  go_enter Tryd.func48, Tryd.ntmps48
  go_wp2
  go_ret
  exact ⟨rfl, rfl⟩
set_option maxRecDepth 100000 in
set_option maxHeartbeats 400000 in
theorem lendT_any (ss : List ByteArray) (ad : Addr) (c : Nat) (w : World) (h : StrsAt w (.slice (some ad) ss.length c) ss) (hn : ss.length ≤ 8796093022204) :
    Calls Tryd.prog 47 #[.slice (some ad) ss.length c] w fun e w' => ∃ b, w.heap.size ≤ b ∧ e = .returned (.slice (some ⟨b, 0, none⟩) ss.length (ss.length + 4)) ∧ Blk w' b 9 (lentTo (strV ss) (.string beyond) (.string ByteArray.empty) 4) ∧ Below w.heap.size w w' := by
  have hmk := fun w => make_lent ss.length hn w
  have hnil := fun w => eql_nilT (some ad) ss.length c w
  have HC : Hid (∀ j v, (strV ss)[j]? = some v → w.cell? (ad.add j) = some v ∧ (ad.add j).block < w.heap.size) := by
    intro j v hv
    have hj : j < ss.length := by have := (List.getElem?_eq_some_iff.1 hv).1; simpa [strV] using this
    obtain ⟨ao, cap, he, hx⟩ := h
    injection he with he _ _
    rcases hx with hx | ⟨b, off, hao, hlt, hc⟩
    · rw [hx] at hj; simp at hj
    · rw [← he] at hao
      injection hao with hao
      subst hao
      refine ⟨?_, by rw [Addr.add_lit]; exact hlt⟩
      rw [Addr.add_lit, hc j hj]
      simp [strV, hj] at hv
      rw [hv]
  clear h
  go_enter Tryd.func47, Tryd.ntmps47
  go_wp2_with ((refine wpList_copy_splice rfl _ _ 38 38 rfl 9 Tryd.underlying38 infoStrSize _ _ _ _ _ _ rfl rfl w.heap.size 0 (madeCells #[.string ByteArray.empty] (ss.length + 4)).toList 9 (by rw [Array.toArray_toList]; exact heap_alloc_new _ _) (strV ss) (by simp [strV]) (fun _ => ⟨rfl, ad, rfl, fun j v hv => by have := HC.out j v hv; exact (((Below.refl w.heap.size w).alloc (Nat.le_refl _) _).cell (p := ad.add j) this.2).trans this.1⟩) (by simp [strV, size_madeCells]) (by intro v hv; simp [strV] at hv; obtain ⟨s, _, rfl⟩ := hv; rfl) w.heap.size w ((Below.refl _ _).alloc (Nat.le_refl _) _) (Nat.le_refl _) ?_); intro w1 hr1 hb1)
  have HB : Hid (Blk w1 w.heap.size 9 (lentTo (strV ss) (.string beyond) (.string ByteArray.empty) 0)) := by
    have := hr1.out
    rw [splice_made _ _ ss.length (by simp [strV])] at this
    exact this
  clear hr1 hmk
  go_loopw [5] (fun iv wr => ∃ k : Nat, k ≤ 4 ∧ iv = .int .i64 ((ss.length + k : Nat) : Int) ∧ Blk wr w.heap.size 9 (lentTo (strV ss) (.string beyond) (.string ByteArray.empty) k) ∧ Below w.heap.size w wr) (fun iv _ => ss.length + 4 - (intOf iv).toNat)
  case atStart => exact ⟨0, Nat.zero_le _, rfl, HB.out, hb1⟩
  case round =>
    clear HB hb1
    obtain ⟨k, hk, rfl, hblk, hbel⟩ := hrel
    by_cases hlt : k < 4
    · have c1 := hblk.cell_some (lentTo_at (strV ss) (.string beyond) (.string ByteArray.empty) ss.length k (by simp [strV]) hlt)
      have f1 := hblk.free (ss.length + k)
      have HBL : Hid (Blk (wr.setCell ⟨w.heap.size, ss.length + k, none⟩ (.string beyond)) w.heap.size 9 (lentTo (strV ss) (.string beyond) (.string ByteArray.empty) (k + 1))) := (hblk.set _ _).eq (lentTo_next _ _ _ ss.length k (by simp [strV]) hlt)
      have hlt2 : (ss.length : Int) + (k : Int) < (ss.length : Int) + 4 := by omega
      clear hblk
      go_wp2
      go_roundw
      case rel => exact ⟨k + 1, by omega, by go_num, HBL.out, hbel.setCell (Nat.le_refl _) _⟩
      case measure => simp [intOf]; omega
    · obtain rfl : k = 4 := by omega
      go_wp2
      go_ret
      exact ⟨_, Nat.le_refl _, rfl, hblk, hbel⟩
def intV (l : List Int) : List Value := l.map (Value.int .i64)
set_option maxRecDepth 100000 in
set_option maxHeartbeats 400000 in
theorem lendI_any (ss : List Int) (ad : Addr) (c : Nat) (w : World) (h : IsC w (.slice (some ad) ss.length c) ss) (hn : ss.length ≤ 17592186044412) :
    Calls Tryd.prog 48 #[.slice (some ad) ss.length c] w fun e w' => ∃ b, w.heap.size ≤ b ∧ e = .returned (.slice (some ⟨b, 0, none⟩) ss.length (ss.length + 4)) ∧ Blk w' b 3 (lentTo (intV ss) (.int .i64 (-77)) (.int .i64 0) 4) ∧ Below w.heap.size w w' := by
  have hmk := fun w => make_lentI ss.length hn w
  have hnil := fun w => eql_nilI (some ad) ss.length c w
  have HC : Hid (∀ j v, (intV ss)[j]? = some v → w.cell? (ad.add j) = some v ∧ (ad.add j).block < w.heap.size) := by
    intro j v hv
    have hj : j < ss.length := by have := (List.getElem?_eq_some_iff.1 hv).1; simpa [intV] using this
    obtain ⟨ao, cap, he, hx⟩ := h
    injection he with he _ _
    rcases hx with hx | ⟨b, off, hao, hlt, hc⟩
    · rw [hx] at hj; simp at hj
    · rw [← he] at hao
      injection hao with hao
      subst hao
      refine ⟨?_, by rw [Addr.add_lit]; exact hlt⟩
      rw [Addr.add_lit, hc j hj]
      simp [intV, hj] at hv
      rw [hv]
  clear h
  go_enter Tryd.func48, Tryd.ntmps48
  go_wp2_with ((refine wpList_copy_splice rfl _ _ 45 45 rfl 3 Tryd.underlying45 infoIntSize _ _ _ _ _ _ rfl rfl w.heap.size 0 (madeCells #[.int .i64 0] (ss.length + 4)).toList 3 (by rw [Array.toArray_toList]; exact heap_alloc_new _ _) (intV ss) (by simp [intV]) (fun _ => ⟨rfl, ad, rfl, fun j v hv => by have := HC.out j v hv; exact (((Below.refl w.heap.size w).alloc (Nat.le_refl _) _).cell (p := ad.add j) this.2).trans this.1⟩) (by simp [intV, size_madeCells]) (by intro v hv; simp [intV] at hv; obtain ⟨s, _, rfl⟩ := hv; rfl) w.heap.size w ((Below.refl _ _).alloc (Nat.le_refl _) _) (Nat.le_refl _) ?_); intro w1 hr1 hb1)
  have HB : Hid (Blk w1 w.heap.size 3 (lentTo (intV ss) (.int .i64 (-77)) (.int .i64 0) 0)) := by
    have := hr1.out
    rw [splice_made _ _ ss.length (by simp [intV])] at this
    exact this
  clear hr1 hmk
  go_loopw [5] (fun iv wr => ∃ k : Nat, k ≤ 4 ∧ iv = .int .i64 ((ss.length + k : Nat) : Int) ∧ Blk wr w.heap.size 3 (lentTo (intV ss) (.int .i64 (-77)) (.int .i64 0) k) ∧ Below w.heap.size w wr) (fun iv _ => ss.length + 4 - (intOf iv).toNat)
  case atStart => exact ⟨0, Nat.zero_le _, rfl, HB.out, hb1⟩
  case round =>
    clear HB hb1
    obtain ⟨k, hk, rfl, hblk, hbel⟩ := hrel
    by_cases hlt : k < 4
    · have c1 := hblk.cell_some (lentTo_at (intV ss) (.int .i64 (-77)) (.int .i64 0) ss.length k (by simp [intV]) hlt)
      have f1 := hblk.free (ss.length + k)
      have HBL : Hid (Blk (wr.setCell ⟨w.heap.size, ss.length + k, none⟩ (.int .i64 (-77))) w.heap.size 3 (lentTo (intV ss) (.int .i64 (-77)) (.int .i64 0) (k + 1))) := (hblk.set _ _).eq (lentTo_next _ _ _ ss.length k (by simp [intV]) hlt)
      have hlt2 : (ss.length : Int) + (k : Int) < (ss.length : Int) + 4 := by omega
      clear hblk
      go_wp2
      go_roundw
      case rel => exact ⟨k + 1, by omega, by go_num, HBL.out, hbel.setCell (Nat.le_refl _) _⟩
      case measure => simp [intOf]; omega
    · obtain rfl : k = 4 := by omega
      go_wp2
      go_ret
      exact ⟨_, Nat.le_refl _, rfl, hblk, hbel⟩
theorem lent_get (vs : List Value) (x z : Value) (n i : Nat) (hn : vs.length = n) : (lentTo vs x z 4)[i]? = if i < n then vs[i]? else if i < n + 4 then some x else none := by
  unfold lentTo
  by_cases h : i < n
  · rw [List.getElem?_append_left (by omega), if_pos h]
  · rw [List.getElem?_append_right (by omega), if_neg h, hn]
    by_cases h2 : i < n + 4
    · rw [if_pos h2, List.getElem?_append_left (by rw [List.length_replicate]; omega), List.getElem?_replicate, if_pos (by omega)]
    · rw [if_neg h2, List.getElem?_eq_none (by simp; omega)]
theorem lent_length (vs : List Value) (x z : Value) (n : Nat) (hn : vs.length = n) : (lentTo vs x z 4).length = n + 4 := by simp [lentTo, hn]
set_option maxRecDepth 100000 in
theorem wholeT_nil (o : Value) (w : World) : Calls Tryd.prog 50 #[o, .slice none 0 0] w fun e w' => e = .returned (.bool true) ∧ w' = w := by
  have hnil := fun w => eql_nilT none 0 0 w
  go_enter Tryd.func50, Tryd.ntmps50
  go_wp2
  go_ret
  exact ⟨rfl, rfl⟩
set_option maxRecDepth 100000 in
theorem wholeI_nil (o : Value) (w : World) : Calls Tryd.prog 51 #[o, .slice none 0 0] w fun e w' => e = .returned (.bool true) ∧ w' = w := by
  have hnil := fun w => eql_nilI none 0 0 w
  go_enter Tryd.func51, Tryd.ntmps51
  go_wp2
  go_ret
  exact ⟨rfl, rfl⟩
set_option maxRecDepth 100000 in
set_option maxHeartbeats 400000 in
theorem wholeT_any (ss : List ByteArray) (ad : Addr) (c b : Nat) (w : World) (h : StrsAt w (.slice (some ad) ss.length c) ss) (hb : Blk w b 9 (lentTo (strV ss) (.string beyond) (.string ByteArray.empty) 4)) (hne : ad.block ≠ b) (hn : ss.length ≤ 8796093022204) :
    Calls Tryd.prog 50 #[.slice (some ⟨b, 0, none⟩) ss.length (ss.length + 4), .slice (some ad) ss.length c] w fun e w' => e = .returned (.bool true) ∧ But b w w' := by
  have hnil := fun w => eql_nilT (some ad) ss.length c w
  have HC : Hid (∀ j, (hj : j < ss.length) → ∃ q, ad = ⟨ad.block, q, none⟩ ∧ w.cell? ⟨ad.block, q + j, none⟩ = some (.string ss[j]) ∧ ad.block < w.heap.size) := by
    intro j hj
    obtain ⟨ao, cap, he, hx⟩ := h
    injection he with he _ _
    rcases hx with hx | ⟨b', off, hao, hlt, hc⟩
    · rw [hx] at hj; simp at hj
    · rw [← he] at hao
      injection hao with hao
      subst hao
      exact ⟨off, rfl, hc j hj, hlt⟩
  have hlen := lent_length (strV ss) (.string beyond) (.string ByteArray.empty) ss.length (by simp [strV])
  obtain ⟨vs, hvs⟩ : ∃ vs, vs = lentTo (strV ss) (.string beyond) (.string ByteArray.empty) 4 := ⟨_, rfl⟩
  rw [← hvs] at hb hlen
  have HG : Hid (∀ i, vs[i]? = if i < ss.length then (strV ss)[i]? else if i < ss.length + 4 then some (.string beyond) else none) := fun i => by rw [hvs]; exact lent_get _ _ _ _ _ (by simp [strV])
  have HLN : Hid (vs.length = ss.length + 4) := hlen
  have HB : Hid (Blk w b 9 vs) := hb
  have z1 : (0 : Int) ≤ (ss.length : Int) + 4 := by omega
  have z2 : ((ss.length : Int) + 4).toNat = ss.length + 4 := by omega
  have z3 : ¬ ss.length + 4 = 0 := by omega
  clear h hb hvs hlen
  go_enter Tryd.func50, Tryd.ntmps50
  go_wp2
  go_loopw [7, 8] (fun o iv wr => ∃ i : Nat, i ≤ ss.length + 4 ∧ o = .bool true ∧ iv = .int .i64 (i : Nat) ∧ Blk wr b 9 (mix (List.replicate (ss.length + 4) (.string mine)) vs i) ∧ But b w wr) (fun _ iv _ => ss.length + 4 - (intOf iv).toNat)
  case atStart => exact ⟨0, Nat.zero_le _, rfl, rfl, by rw [mix_zero]; exact HB.out, But.refl _ _⟩
  case round =>
    obtain ⟨i, hi, rfl, rfl, hblk, hbut⟩ := hrel
    by_cases hlt : i < ss.length + 4
    · have hml : (List.replicate (ss.length + 4) (Value.string mine)).length = vs.length := by rw [HLN.out]; simp
      have hil : i < vs.length := by rw [HLN.out]; exact hlt
      have c1 := hblk.cell_some (mix_at hml hil)
      have f1 := hblk.free i
      have HNW : Hid (Blk (wr.setCell ⟨b, i, none⟩ (.string mine)) b 9 (mix (List.replicate (ss.length + 4) (.string mine)) vs (i + 1))) := by
        refine (hblk.set i _).eq ?_
        rw [← mix_set hml hil]
        simp
      have HBT : Hid (But b w wr) := hbut
      have hg := HG.out i
      rw [List.getElem?_eq_getElem hil] at hg
      have l4 : (i : Int) < (ss.length : Int) + 4 := by omega
      by_cases hin : i < ss.length
      · rw [if_pos hin, show (strV ss)[i]? = some (.string ss[i]) by simp [strV, hin]] at hg
        injection hg with hg
        rw [hg] at c1
        obtain ⟨q, hq, hcq, hql⟩ := HC.out i hin
        have c2 : wr.cell? ⟨ad.block, q + i, none⟩ = some (.string ss[i]) := (hbut.cell (p := ⟨ad.block, q + i, none⟩) hne hql).trans hcq
        obtain ⟨ab, hab⟩ : ∃ ab, ab = ad.block := ⟨_, rfl⟩
        rw [← hab] at hq c2
        subst hq
        obtain ⟨x, hx⟩ : ∃ x, x = ss[i] := ⟨_, rfl⟩
        rw [← hx] at c1 c2
        have l1 : decide ((i : Int) < (ss.length : Int)) = true := decide_eq_true (by omega)
        clear hx hg hblk hcq hbut
        go_wp2
        go_roundw
        case rel => exact ⟨i + 1, by omega, by simp, by go_num, HNW.out, HBT.out.setCell _ _⟩
        case measure => simp [intOf]; omega
      · rw [if_neg hin, if_pos hlt] at hg
        injection hg with hg
        rw [hg] at c1
        have l1 : decide ((i : Int) < (ss.length : Int)) = false := decide_eq_false (by omega)
        clear hg hblk hbut
        go_wp2
        go_roundw
        case rel => exact ⟨i + 1, by omega, by simp [beyond], by go_num, HNW.out, HBT.out.setCell _ _⟩
        case measure => simp [intOf]; omega
    · obtain rfl : i = ss.length + 4 := by omega
      go_wp2
      go_ret
      exact ⟨rfl, hbut⟩
set_option maxRecDepth 100000 in
set_option maxHeartbeats 400000 in
theorem wholeI_any (ss : List Int) (ad : Addr) (c b : Nat) (w : World) (h : IsC w (.slice (some ad) ss.length c) ss) (hb : Blk w b 3 (lentTo (intV ss) (.int .i64 (-77)) (.int .i64 0) 4)) (hne : ad.block ≠ b) (hn : ss.length ≤ 17592186044412) :
    Calls Tryd.prog 51 #[.slice (some ⟨b, 0, none⟩) ss.length (ss.length + 4), .slice (some ad) ss.length c] w fun e w' => e = .returned (.bool true) ∧ But b w w' := by
  have hnil := fun w => eql_nilI (some ad) ss.length c w
  have HC : Hid (∀ j, (hj : j < ss.length) → ∃ q, ad = ⟨ad.block, q, none⟩ ∧ w.cell? ⟨ad.block, q + j, none⟩ = some (.int .i64 ss[j]) ∧ ad.block < w.heap.size) := by
    intro j hj
    obtain ⟨ao, cap, he, hx⟩ := h
    injection he with he _ _
    rcases hx with hx | ⟨b', off, hao, hlt, hc⟩
    · rw [hx] at hj; simp at hj
    · rw [← he] at hao
      injection hao with hao
      subst hao
      exact ⟨off, rfl, hc j hj, hlt⟩
  have hlen := lent_length (intV ss) (.int .i64 (-77)) (.int .i64 0) ss.length (by simp [intV])
  obtain ⟨vs, hvs⟩ : ∃ vs, vs = lentTo (intV ss) (.int .i64 (-77)) (.int .i64 0) 4 := ⟨_, rfl⟩
  rw [← hvs] at hb hlen
  have HG : Hid (∀ i, vs[i]? = if i < ss.length then (intV ss)[i]? else if i < ss.length + 4 then some (.int .i64 (-77)) else none) := fun i => by rw [hvs]; exact lent_get _ _ _ _ _ (by simp [intV])
  have HLN : Hid (vs.length = ss.length + 4) := hlen
  have HB : Hid (Blk w b 3 vs) := hb
  have z1 : (0 : Int) ≤ (ss.length : Int) + 4 := by omega
  have z2 : ((ss.length : Int) + 4).toNat = ss.length + 4 := by omega
  have z3 : ¬ ss.length + 4 = 0 := by omega
  clear h hb hvs hlen
  go_enter Tryd.func51, Tryd.ntmps51
  go_wp2
  go_loopw [7, 8] (fun o iv wr => ∃ i : Nat, i ≤ ss.length + 4 ∧ o = .bool true ∧ iv = .int .i64 (i : Nat) ∧ Blk wr b 3 (mix (List.replicate (ss.length + 4) (.int .i64 (-99))) vs i) ∧ But b w wr) (fun _ iv _ => ss.length + 4 - (intOf iv).toNat)
  case atStart => exact ⟨0, Nat.zero_le _, rfl, rfl, by rw [mix_zero]; exact HB.out, But.refl _ _⟩
  case round =>
    obtain ⟨i, hi, rfl, rfl, hblk, hbut⟩ := hrel
    by_cases hlt : i < ss.length + 4
    · have hml : (List.replicate (ss.length + 4) (Value.int .i64 (-99))).length = vs.length := by rw [HLN.out]; simp
      have hil : i < vs.length := by rw [HLN.out]; exact hlt
      have c1 := hblk.cell_some (mix_at hml hil)
      have f1 := hblk.free i
      have HNW : Hid (Blk (wr.setCell ⟨b, i, none⟩ (.int .i64 (-99))) b 3 (mix (List.replicate (ss.length + 4) (.int .i64 (-99))) vs (i + 1))) := by
        refine (hblk.set i _).eq ?_
        rw [← mix_set hml hil]
        simp
      have HBT : Hid (But b w wr) := hbut
      have hg := HG.out i
      rw [List.getElem?_eq_getElem hil] at hg
      have l4 : (i : Int) < (ss.length : Int) + 4 := by omega
      by_cases hin : i < ss.length
      · rw [if_pos hin, show (intV ss)[i]? = some (.int .i64 ss[i]) by simp [intV, hin]] at hg
        injection hg with hg
        rw [hg] at c1
        obtain ⟨q, hq, hcq, hql⟩ := HC.out i hin
        have c2 : wr.cell? ⟨ad.block, q + i, none⟩ = some (.int .i64 ss[i]) := (hbut.cell (p := ⟨ad.block, q + i, none⟩) hne hql).trans hcq
        obtain ⟨ab, hab⟩ : ∃ ab, ab = ad.block := ⟨_, rfl⟩
        rw [← hab] at hq c2
        subst hq
        obtain ⟨x, hx⟩ : ∃ x, x = ss[i] := ⟨_, rfl⟩
        rw [← hx] at c1 c2
        have l1 : decide ((i : Int) < (ss.length : Int)) = true := decide_eq_true (by omega)
        clear hx hg hblk hcq hbut
        go_wp2
        go_roundw
        case rel => exact ⟨i + 1, by omega, by simp, by go_num, HNW.out, HBT.out.setCell _ _⟩
        case measure => simp [intOf]; omega
      · rw [if_neg hin, if_pos hlt] at hg
        injection hg with hg
        rw [hg] at c1
        have l1 : decide ((i : Int) < (ss.length : Int)) = false := decide_eq_false (by omega)
        clear hg hblk hbut
        go_wp2
        go_roundw
        case rel => exact ⟨i + 1, by omega, by simp, by go_num, HNW.out, HBT.out.setCell _ _⟩
        case measure => simp [intOf]; omega
    · obtain rfl : i = ss.length + 4 := by omega
      go_wp2
      go_ret
      exact ⟨rfl, hbut⟩
end Go.Proofs.YtlnpppdffhibjaaDoor.Book

namespace Go.Proofs.YtlnpppdffhibjaaDoor.Ref
open Go.RowKit Mem FieldWalks Tab ByTab Parts Book
open Plans (But)

/-- Only one block between lo and hi was written, and new ones made. -/
def Wrote (lo hi : Nat) (w w' : World) : Prop := w' = w ∨ ∃ S, lo ≤ S ∧ S < hi ∧ But S w w'
section
variable {lo hi : Nat} {w w' : World}
theorem Wrote.below (h : Wrote lo hi w w') {w0 : World} {B : Nat} (hb : Below B w0 w) (hB : B ≤ w.heap.size) (hlo : B ≤ lo) : Below B w0 w' := by
  rcases h with rfl | ⟨S, h1, _, h3⟩
  · exact hb
  · exact h3.below hb (Nat.le_trans hlo h1) hB
theorem Wrote.size (h : Wrote lo hi w w') : w.heap.size ≤ w'.heap.size := by
  rcases h with rfl | ⟨S, _, _, h3⟩
  · exact Nat.le_refl _
  · exact h3.size
theorem Wrote.blk (h : Wrote lo hi w w') {b : Nat} {t : TypeId} {vs : List Value} (hb : Blk w b t vs) (hl : hi ≤ b) : Blk w' b t vs := by
  rcases h with rfl | ⟨S, _, h2, h3⟩
  · exact hb
  · exact h3.blk hb (by omega)
theorem Wrote.blk_low (h : Wrote lo hi w w') {b : Nat} {t : TypeId} {vs : List Value} (hb : Blk w b t vs) (hl : b < lo) : Blk w' b t vs := by
  rcases h with rfl | ⟨S, h1, _, h3⟩
  · exact hb
  · exact h3.blk hb (by omega)
theorem Wrote.strs (h : Wrote lo hi w w') {v : Value} {ss : List ByteArray} (hs : StrsNew w hi v ss) : StrsNew w' hi v ss := by
  rcases h with rfl | ⟨S, _, h2, h3⟩
  · exact hs
  · obtain ⟨ao, cap, rfl, hs⟩ := hs
    refine ⟨ao, cap, rfl, ?_⟩
    rcases hs with hs | ⟨b, off, rfl, h4, h5, h6⟩
    · exact .inl hs
    · exact .inr ⟨b, off, rfl, h4, Nat.lt_of_lt_of_le h5 h3.size, fun k hk => by rw [h3.cell (p := ⟨b, off + k, none⟩) (by show b ≠ S; omega) h5]; exact h6 k hk⟩
end
/-- A list that came in: none, or one that lies in a block that is there. -/
def CameT (w : World) (pv : Value) (n : Nat) : Prop := pv = .slice none 0 0 ∨ ∃ ad cp, pv = .slice (some ad) n cp ∧ ad.block < w.heap.size
theorem CameT.to {w w' : World} {pv : Value} {n : Nat} (h : CameT w pv n) (hb : w.heap.size ≤ w'.heap.size) : CameT w' pv n := by
  rcases h with h | ⟨ad, cp, h1, h2⟩
  · exact .inl h
  · exact .inr ⟨ad, cp, h1, Nat.lt_of_lt_of_le h2 hb⟩

theorem lendT_both (pieces : List ByteArray) (pv : Value) (w : World) (hp : CameT w pv pieces.length) (hst : StrsAt w pv pieces) (hpl : pieces.length ≤ 8796093022204) :
    Calls Tryd.prog 47 #[pv] w fun e w1 => ∃ p, e = .returned p ∧ StrsAt w1 p pieces ∧ Below w.heap.size w w1 ∧
      ∀ w3, Below w1.heap.size w1 w3 → Calls Tryd.prog 50 #[p, pv] w3 fun e w4 => e = .returned (.bool true) ∧ Wrote w.heap.size w1.heap.size w3 w4 := by
  rcases hp with rfl | ⟨ad, cp, rfl, hlt⟩
  · refine (lendT_nil w).mono ?_
    rintro e w1 ⟨rfl, rfl⟩
    refine ⟨_, rfl, hst, Below.refl _ _, fun w3 _ => (wholeT_nil _ w3).mono ?_⟩
    rintro e w4 ⟨rfl, rfl⟩
    exact ⟨rfl, .inl rfl⟩
  · refine (lendT_any pieces ad cp w hst hpl).mono ?_
    rintro e w1 ⟨b, hb, rfl, hblk, hb1⟩
    refine ⟨_, rfl, ?_, hb1, fun w3 hb3 => ?_⟩
    · refine ⟨_, _, rfl, .inr ⟨b, 0, rfl, hblk.lt, fun k hk => ?_⟩⟩
      rw [Nat.zero_add]
      refine hblk.cell_some ?_
      rw [lent_get _ _ _ pieces.length k (by simp [strV]), if_pos hk]
      simp [strV, hk]
    · refine (wholeT_any pieces ad cp b w3 ((hst.to hb1).to hb3) (hblk.to hb3) (by omega) hpl).mono ?_
      rintro e w4 ⟨rfl, hbut⟩
      exact ⟨rfl, .inr ⟨b, hb, hblk.lt, hbut⟩⟩
theorem lendI_both (l : List Int) (pv : Value) (w : World) (hp : CameT w pv l.length) (hst : IsC w pv l) (hpl : l.length ≤ 17592186044412) :
    Calls Tryd.prog 48 #[pv] w fun e w1 => ∃ p, e = .returned p ∧ IsC w1 p l ∧ Below w.heap.size w w1 ∧
      ∀ w3, IsC w3 pv l → (∀ b t vs, b < w1.heap.size → w.heap.size ≤ b → Blk w1 b t vs → Blk w3 b t vs) → Calls Tryd.prog 51 #[p, pv] w3 fun e w4 => e = .returned (.bool true) ∧ Wrote w.heap.size w1.heap.size w3 w4 := by
  rcases hp with rfl | ⟨ad, cp, rfl, hlt⟩
  · refine (lendI_nil w).mono ?_
    rintro e w1 ⟨rfl, rfl⟩
    refine ⟨_, rfl, hst, Below.refl _ _, fun w3 _ _ => (wholeI_nil _ w3).mono ?_⟩
    rintro e w4 ⟨rfl, rfl⟩
    exact ⟨rfl, .inl rfl⟩
  · refine (lendI_any l ad cp w hst hpl).mono ?_
    rintro e w1 ⟨b, hb, rfl, hblk, hb1⟩
    refine ⟨_, rfl, ?_, hb1, fun w3 hi3 hk3 => ?_⟩
    · refine ⟨_, 4, rfl, .inr ⟨b, 0, rfl, hblk.lt, fun k hk => ?_⟩⟩
      rw [Nat.zero_add]
      refine hblk.cell_some ?_
      rw [lent_get _ _ _ l.length k (by simp [intV]), if_pos hk]
      simp [intV, hk]
    · refine (wholeI_any l ad cp b w3 hi3 (hk3 b _ _ hblk.lt hb hblk) (by omega) hpl).mono ?_
      rintro e w4 ⟨rfl, hbut⟩
      exact ⟨rfl, .inr ⟨b, hb, hblk.lt, hbut⟩⟩
end Go.Proofs.YtlnpppdffhibjaaDoor.Ref

/- Lists that come in, opened: strings, numbers. -/
namespace Go.Proofs.YtlnpppdffhibjaaDoor.CardArgs
open Go.ChangeShapes Go.WideShapes Go.ChangeAt Go.RowKit Mem Ref

theorem laidOut : laidOutB Tryd.prog = true := by kernel_rfl
theorem cellsStr : Tryd.prog.cellsOf 9 = 1 := by kernel_rfl
theorem cellsInt : Tryd.prog.cellsOf 3 = 1 := by kernel_rfl
theorem bytesStr : Tryd.prog.bytesOf 9 = 16 := by kernel_rfl
theorem bytesInt : Tryd.prog.bytesOf 3 = 8 := by kernel_rfl

/-- A slice that is one lies in a block that is there, at no inner place. -/
theorem slice_plain {P : Program} {W : World} {r : Reach} {base : Nat} {t e : TypeId} {a : Addr} {len cap : Nat} (ht : P.underlying t = some (.slice e)) (h : Value.okWide P W r base t (.slice (some a) len cap)) : ∃ b off, a = ⟨b, off, none⟩ ∧ b < W.heap.size := by
  simp only [Value.okWide, ht, Cell.okWide, Cell.ok] at h
  obtain ⟨_, _, _, h1, row, cells, h2, _⟩ := h
  refine ⟨a.block, a.off, ?_, ?_⟩
  · cases a; simp at h1; subst h1; rfl
  · apply Classical.byContradiction
    intro hn
    have : W.heap[a.block]? = none := by simp; omega
    simp [World.shape?, this] at h2

theorem wf_i64 {x : Int} (h : (Lit.int .i64 x).wf = true) : -9223372036854775808 ≤ x ∧ x ≤ 9223372036854775807 := by
  have h1 : IntKind.i64.min = -9223372036854775808 := by decide
  have h2 : IntKind.i64.max = 9223372036854775807 := by decide
  simp only [Lit.wf, h1, h2, Bool.and_eq_true, decide_eq_true_eq] at h
  exact h
theorem weights_all {H : Type} {P : Program} {e : TypeId} {d : DataW H} {n : Nat} : ∀ {l : List (DataW H)}, d ∈ l → n ∈ d.weights P e → n ∈ DataW.weightsAll P e l
  | [], h, _ => by cases h
  | x :: l, h, hn => by
    simp only [DataW.weightsAll, List.mem_append]
    rcases List.mem_cons.1 h with rfl | h
    · exact .inl hn
    · exact .inr (weights_all h hn)

section
set_option maxRecDepth 100000
variable {H : Type} {enc : TypeId × Value → H} {W : World} {base j : Nat} {v : Value} {d : DataW H} {p : List MemPlace} {ts : List TypeId} {ds : List (DataW H)}
theorem strs_arg (hval : Value.okWide Tryd.prog W .any base 38 v) (h : DataW.Trod enc Tryd.prog W 0 (fun _ => true) true 38 v d p) (hsz : (DataW.weightsEach Tryd.prog ts ds).all (· ≤ reachBytes) = true) (hts : ts[j]? = some 38) (hds : ds[j]? = some d) :
    ∃ pieces : List ByteArray, CameT W v pieces.length ∧ StrsAt W v pieces ∧ pieces.length ≤ 8796093022204 ∧ ∀ q, (h : q < pieces.length) → pieces[q].size < 2 ^ 62 := by
  obtain ⟨fuel, h⟩ := h
  obtain ⟨a0, len0, cap0, rfl⟩ := okWide_slice Tryd.underlying38 hval
  have hcs : (Value.slice a0 len0 cap0).cells.toList = [.slice a0 len0 cap0] := rfl
  rw [hcs] at h
  rcases Deep.open_strs Tryd.underlying38 Tryd.underlying9 cellsStr h with ⟨h1, h2⟩ | ⟨a, len, cap, m, Sx, h1, h2, h3, h4, h5, h6, h7⟩
  · injection h1 with h1 _
    rw [h1]
    exact ⟨[], .inl rfl, ⟨none, 0, rfl, .inl rfl⟩, by simp, fun q hq => by simp at hq⟩
  · injection h1 with h1 _
    rw [h1] at hval ⊢
    obtain ⟨b, off, rfl, hb⟩ := slice_plain Tryd.underlying38 hval
    simp only [Prod.mk.injEq] at h6
    obtain ⟨rfl, _⟩ := h6
    have hm : m = cap := by simpa using h5
    have hbytes := sized_slice hsz hts hds Tryd.underlying38
    rw [bytesStr] at hbytes
    simp only [List.length_map, List.length_range] at hbytes
    have hr : reachBytes = 140737488351232 := by decide
    refine ⟨(List.range len).map Sx, .inr ⟨⟨b, off, none⟩, cap, by simp, hb⟩, ⟨_, cap, by simp, .inr ⟨b, off, rfl, hb, fun k hk => ?_⟩⟩, ?_, fun q hq => ?_⟩
    · have hk' : k < len := by simpa using hk
      have := (h7 k (by omega)).1
      rw [Addr.add_lit] at this
      rw [this]; simp
    · simp only [List.length_map, List.length_range]; omega
    · have hq' : q < len := by simpa using hq
      have hmem : (DataW.lit (.string (Sx q).data.toList) : DataW H) ∈ (List.range len).map fun i => (DataW.lit (.string (Sx i).data.toList) : DataW H) := List.mem_map.2 ⟨q, List.mem_range.2 hq', rfl⟩
      have hw := weights_all (P := Tryd.prog) (e := 9) (n := (Sx q).data.toList.length) hmem (by simp [DataW.weights])
      have hall := List.all_eq_true.1 hsz _ (DataW.weights_mem_each hts hds ((Sx q).data.toList.length) (by
        simp only [DataW.weights, Tryd.underlying38, List.mem_cons, List.mem_append]
        exact .inr (.inl hw)))
      have hsq : (Sx q).size = (Sx q).data.toList.length := by rw [Array.length_toList]; rfl
      simp only [List.getElem_map, List.getElem_range]
      rw [hsq]
      have : (Sx q).data.toList.length ≤ reachBytes := by simpa using hall
      omega
theorem ints_arg (hval : Value.okWide Tryd.prog W .any base 45 v) (h : DataW.Trod enc Tryd.prog W 0 (fun _ => true) true 45 v d p) (hsz : (DataW.weightsEach Tryd.prog ts ds).all (· ≤ reachBytes) = true) (hts : ts[j]? = some 45) (hds : ds[j]? = some d) :
    ∃ l : List Int, CameT W v l.length ∧ IsC W v l ∧ l.length ≤ 17592186044412 ∧ ∀ x, x ∈ l → -9223372036854775808 ≤ x ∧ x ≤ 9223372036854775807 := by
  obtain ⟨fuel, h⟩ := h
  obtain ⟨a0, len0, cap0, rfl⟩ := okWide_slice Tryd.underlying45 hval
  have hcs : (Value.slice a0 len0 cap0).cells.toList = [.slice a0 len0 cap0] := rfl
  rw [hcs] at h
  rcases open_ints Tryd.underlying45 Tryd.underlying3 cellsInt h with ⟨h1, h2⟩ | ⟨a, len, cap, zs, h1, h2, h3, h4, h5, h6, h7, h8⟩
  · injection h1 with h1 _
    rw [h1]
    exact ⟨[], .inl rfl, ⟨none, 0, rfl, .inl rfl⟩, by simp, fun q hq => by simp at hq⟩
  · injection h1 with h1 _
    rw [h1] at hval ⊢
    obtain ⟨b, off, rfl, hb⟩ := slice_plain Tryd.underlying45 hval
    simp only [Prod.mk.injEq] at h6
    obtain ⟨rfl, _⟩ := h6
    have hm : zs.length = cap := by simpa using h5
    have hbytes := sized_slice hsz hts hds Tryd.underlying45
    rw [bytesInt] at hbytes
    simp only [lits, List.length_map, List.length_take, List.length_drop] at hbytes
    have hr : reachBytes = 140737488351232 := by decide
    have hlt : (zs.take len).length = len := by rw [List.length_take]; omega
    refine ⟨zs.take len, .inr ⟨⟨b, off, none⟩, cap, by rw [hlt], hb⟩, ⟨_, cap - len, by rw [hlt]; congr 1; omega, .inr ⟨b, off, rfl, hb, fun k hk => ?_⟩⟩, ?_, fun x hx => ?_⟩
    · rw [hlt] at hk
      have := h7 k (by omega)
      rw [Addr.add_lit] at this
      rw [this]; simp [show k < zs.length by omega]
    · rw [hlt]; omega
    · have := h8 x (List.mem_of_mem_take hx)
      exact wf_i64 this
end
end Go.Proofs.YtlnpppdffhibjaaDoor.CardArgs

/- A list of writings that comes in, opened. -/
namespace Go.Proofs.YtlnpppdffhibjaaDoor.CardArgs
open Go.ChangeShapes Go.WideShapes Go.ChangeAt Go.RowKit Mem Ref KeepW

theorem cellsWr : Tryd.prog.cellsOf 60 = 2 := by kernel_rfl
theorem bytesWr : Tryd.prog.bytesOf 60 = 24 := by kernel_rfl
section
set_option maxRecDepth 100000
variable {H : Type} {enc : TypeId × Value → H} {W : World} {base j : Nat} {v : Value} {d : DataW H} {p : List MemPlace} {ts : List TypeId} {ds : List (DataW H)}
theorem pairs_arg (hval : Value.okWide Tryd.prog W .any base 57 v) (h : DataW.Trod enc Tryd.prog W 0 (fun _ => true) true 57 v d p) (hsz : (DataW.weightsEach Tryd.prog ts ds).all (· ≤ reachBytes) = true) (hts : ts[j]? = some 57) (hds : ds[j]? = some d) :
    ∃ ws : List (Int × ByteArray), WrAt W v ws ∧ ws.length < 2 ^ 62 ∧ ∀ x, x ∈ ws → -9223372036854775808 ≤ x.1 ∧ x.1 ≤ 9223372036854775807 ∧ x.2.size < 2 ^ 62 := by
  obtain ⟨fuel, h⟩ := h
  obtain ⟨a0, len0, cap0, rfl⟩ := okWide_slice Tryd.underlying57 hval
  have hcs : (Value.slice a0 len0 cap0).cells.toList = [.slice a0 len0 cap0] := rfl
  rw [hcs] at h
  rcases Deep.open_slice_pairs Tryd.underlying57 Tryd.underlying60 cellsWr rfl rfl cellsInt cellsStr h with ⟨h1, h2⟩ | ⟨a, len, cap, m, n, V0, V1, D0, D1, P0, P1, h1, h2, h3, h4, h5, h6, h7⟩
  · injection h1 with h1 _
    rw [h1]
    exact ⟨[], ⟨none, 0, rfl, .inl rfl⟩, by simp, fun q hq => by simp at hq⟩
  · injection h1 with h1 _
    rw [h1] at hval ⊢
    obtain ⟨b, off, rfl, hb⟩ := slice_plain Tryd.underlying57 hval
    simp only [Prod.mk.injEq] at h6
    obtain ⟨rfl, _⟩ := h6
    have hm : m = cap := by simpa using h5
    have hbytes := sized_slice hsz hts hds Tryd.underlying57
    rw [bytesWr] at hbytes
    simp only [List.length_map, List.length_range] at hbytes
    have hr : reachBytes = 140737488351232 := by decide
    have each : ∀ i, i < m → ∃ q : Int × ByteArray, W.cell? ⟨b, off + i * 2, none⟩ = some (.int .i64 q.1) ∧ W.cell? ⟨b, off + i * 2 + 1, none⟩ = some (.string q.2) ∧ (Lit.int .i64 q.1).wf = true ∧ D1 i = .lit (.string q.2.data.toList) := fun i hi => by
      obtain ⟨c0, c1, t0, t1⟩ := h7 i hi
      obtain ⟨z, e1, _, hz⟩ := DataW.trod_int Tryd.underlying3 t0
      obtain ⟨s, e2, e3, _⟩ := DataW.trod_string Tryd.underlying9 t1
      injection e1 with e1 _
      injection e2 with e2 _
      rw [Addr.add_lit] at c0 c1
      simp only [Prod.mk.injEq] at e3
      exact ⟨(z, s), by rw [c0, e1], by rw [show off + i * 2 + 1 = off + (i * 2 + 1) by omega, c1, e2], hz, e3.1⟩
    obtain ⟨q, hq⟩ := Deep.choose_lt each
    refine ⟨(List.range len).map q, ⟨_, cap, by simp, .inr ⟨b, off, rfl, hb, fun k hk => ?_⟩⟩, ?_, fun x hx => ?_⟩
    · have hk' : k < len := by simpa using hk
      have := hq k (by omega)
      simp only [List.getElem_map, List.getElem_range]
      exact ⟨this.1, this.2.1⟩
    · simp only [List.length_map, List.length_range]; omega
    · obtain ⟨i, hi, rfl⟩ := List.mem_map.1 hx
      have hi' : i < len := List.mem_range.1 hi
      have hqi := hq i (by omega)
      have hw := wf_i64 hqi.2.2.1
      refine ⟨hw.1, hw.2, ?_⟩
      have hmem : (DataW.agg [D0 i, D1 i] : DataW H) ∈ (List.range len).map fun i => (DataW.agg [D0 i, D1 i] : DataW H) := List.mem_map.2 ⟨i, List.mem_range.2 hi', rfl⟩
      have hws := weights_all (P := Tryd.prog) (e := 60) (n := (q i).2.data.toList.length) hmem (by
        simp only [DataW.weights, Tryd.underlying60]
        refine DataW.weights_mem_each (j := 1) rfl rfl _ ?_
        rw [hqi.2.2.2]
        simp [DataW.weights])
      have hall := List.all_eq_true.1 hsz _ (DataW.weights_mem_each hts hds ((q i).2.data.toList.length) (by
        simp only [DataW.weights, Tryd.underlying57, List.mem_cons, List.mem_append]
        exact .inr (.inl hws)))
      have hsq : (q i).2.size = (q i).2.data.toList.length := by rw [Array.length_toList]; rfl
      rw [hsq]
      have : (q i).2.data.toList.length ≤ reachBytes := by simpa using hall
      omega
end
end Go.Proofs.YtlnpppdffhibjaaDoor.CardArgs

namespace Go.Proofs.YtlnpppdffhibjaaDoor.ChangedCard
open Go.ChangeShapes Go.WideShapes Go.ChangeAt Go.ChangeMaps Go.RowKit

theorem own : ownKnob Tryd.prog.godebug = none := by kernel_rfl
theorem gTab : Tryd.prog.globalNamed "wattle/field.highPowers" = some 0 := by kernel_rfl
theorem gTabType : (Tryd.prog.globals[0]?).map (·.type) = some 106 := by kernel_rfl
theorem cellsTab : Tryd.prog.cellsOf 106 = 7 := by kernel_rfl
theorem cellsByte : Tryd.prog.cellsOf 5 = 1 := by kernel_rfl

/-- What the row's list gives: the table's cells hold its seven numbers. -/
theorem table {W : World} (h : laidMetH Tryd.prog Rows.changedRow.laid W) : FieldWalks.Table W := by
  have t : Lib.TabIs Tryd.prog W "wattle/field.highPowers" .u8 [29, 58, 116, 232, 205, 135, 19] :=
    Lib.tabIs_of_head (rest := []) gTab gTabType Tryd.underlying106 Tryd.underlying5 cellsByte cellsTab h
  intro k hk
  match k, hk with
  | 0, _ => exact t.cell gTab 0 (by decide)
  | 1, _ => exact t.cell gTab 1 (by decide)
  | 2, _ => exact t.cell gTab 2 (by decide)
  | 3, _ => exact t.cell gTab 3 (by decide)
  | 4, _ => exact t.cell gTab 4 (by decide)
  | 5, _ => exact t.cell gTab 5 (by decide)
  | 6, _ => exact t.cell gTab 6 (by decide)

set_option maxRecDepth 100000 in
theorem contract (H : Type) (enc : TypeId × Value → H) (W : World) (base : Nat) (args : Array Value) (ds gs : List (DataW H)) (before : List MemPlace)
    (hval : ∀ (j : Nat) t v, Tryd.f9.params[j]? = some t → args[j]? = some v → Value.okWide Tryd.prog W .any base t v)
    (hW : DataW.Whole enc Tryd.prog Tryd.f9.params.toList Rows.changedSpec.vars false W args.toList ds gs before)
    (hsized : (DataW.weightsEach Tryd.prog (Tryd.f9.params.toList ++ (OpenSpec.ofChange Rows.changedSpec).bare.plain.varTypes Tryd.prog) (ds ++ gs)).all (· ≤ reachBytes) = true) (hL : laidMetH Tryd.prog Rows.changedRow.laid W) :
    Calls Tryd.prog 9 args W fun e W' => ∃ v, e = .returned v ∧ Rows.changedSpec.post enc Tryd.prog Tryd.f9 false true false false W args v W' := by
  have hW' := hW
  have hlt := hW.lt
  obtain ⟨p, q, hA0, hV, rfl, hfz, hnd⟩ := hW
  have hA : DataW.TrodAll enc Tryd.prog W 0 (fun _ => true) true Tryd.f9.params.toList args.toList ds p := hA0
  rw [Tryd.params9] at hA hval hsized
  obtain ⟨v0, vs0, d0, ds0, p0, q0, hargs, rfl, rfl, h0, r0⟩ := trodAll_cons hA
  obtain ⟨v1, vs1, d1, ds1, p1, q1, rfl, rfl, rfl, h1, r1⟩ := trodAll_cons r0
  obtain ⟨v2, vs2, d2, ds2, p2, q2, rfl, rfl, rfl, h2, r2⟩ := trodAll_cons r1
  obtain ⟨v3, vs3, d3, ds3, p3, q3, rfl, rfl, rfl, h3, r3⟩ := trodAll_cons r2
  obtain ⟨v4, vs4, d4, ds4, p4, q4, rfl, rfl, rfl, h4, r4⟩ := trodAll_cons r3
  obtain ⟨rfl, rfl, rfl⟩ := trodAll_nil r4
  obtain rfl : args = #[v0, v1, v2, v3, v4] := Array.toList_inj.1 hargs
  obtain ⟨rfl, rfl⟩ := trodVars_none hV
  obtain ⟨a, rfl, rfl, rfl, wa⟩ := open_int Tryd.underlying3 (hval 0 3 v0 rfl rfl) h0
  obtain ⟨b, rfl, rfl, rfl, wb⟩ := open_int Tryd.underlying3 (hval 1 3 v1 rfl rfl) h1
  obtain ⟨c, rfl, rfl, rfl, wc⟩ := open_int Tryd.underlying3 (hval 2 3 v2 rfl rfl) h2
  obtain ⟨str, rfl, rfl, rfl, hs⟩ := open_string Tryd.underlying9 (hval 3 9 v3 rfl rfl) h3
  obtain ⟨ws, hwr, hwl, hwb⟩ := CardArgs.pairs_arg (j := 4) (hval 4 57 v4 rfl rfl) h4 hsized rfl rfl
  clear hA0
  simp only [List.append_nil, List.nil_append] at hW' hlt
  have hT := table hL
  have wa' := CardArgs.wf_i64 wa
  have wb' := CardArgs.wf_i64 wb
  have wc' := CardArgs.wf_i64 wc
  refine (KeepW.kchanged_any Top.sums_any KeepW.change_yes KeepW.change_out a b c str ws v4 W hT (block_lt_of_cell (hT 0 (by decide))) hwr hwl hwb wa'.1 wa'.2 wb'.1 wb'.2 wc'.1 wc'.2).mono fun e W' ⟨he, hb⟩ => ?_
  subst he
  have h4' := Below.trod CardArgs.laidOut (by kernel_rfl) (of_decide_eq_true (by kernel_rfl)) h4 hb (fun y hy => hlt y (by simp [hy]))
  exact ⟨_, rfl, _, _, _, [], _, [], hW', trodAll_cons_mk (shut_bool Tryd.underlying4 _) trodAll_mk0,
    trodAll_cons_mk (shut_int Tryd.underlying3 wa) (trodAll_cons_mk (shut_int Tryd.underlying3 wb) (trodAll_cons_mk (shut_int Tryd.underlying3 wc) (trodAll_cons_mk (shut_string Tryd.underlying9 hs) (trodAll_cons_mk h4' trodAll_mk0)))), rfl,
    hb.frame _, fun h => by cases h⟩

theorem laid_met (os : Os) : laidMet Tryd.prog Rows.changedRow.laid ((World.doorLaid Tryd.prog 400 os).forCall (fun _ _ => 0) ⟨#[], #[.int .i64 0, .int .i64 0, .int .i64 0, .string ByteArray.empty, .slice none 0 0], []⟩).memory :=
  laidMet_of_run' 8 (by kernel_rfl) (by kernel_rfl)
theorem reads (os : Os) {H : Type} (enc : TypeId × Value → H) : ∃ places, DataW.whole enc Tryd.prog ((World.doorLaid Tryd.prog 400 os).forCall (fun _ _ => 0) ⟨#[], #[.int .i64 0, .int .i64 0, .int .i64 0, .string ByteArray.empty, .slice none 0 0], []⟩).memory Tryd.f9.params.toList Rows.changedSpec.vars false #[Value.int .i64 0, Value.int .i64 0, Value.int .i64 0, Value.string ByteArray.empty, Value.slice none 0 0].toList 8 = some ([.lit (.int .i64 0), .lit (.int .i64 0), .lit (.int .i64 0), .lit (.string []), .nil], [], places) :=
  ⟨[], by kernel_rfl⟩

set_option maxRecDepth 100000 in
theorem lifted (os : Os) (started : os.Started) (H : Type) (enc : TypeId × Value → H) (F : Stop.Interp) :
    ReturnsInHanded {} Tryd.checked os 9 .any ((OpenSpec.ofChange Rows.changedSpec).preRow enc Tryd.prog Tryd.f9 Rows.changedRow.domain false Rows.changedRow.laid) (((OpenSpec.ofChange Rows.changedSpec).at F).post enc Tryd.prog Tryd.f9 false true false false) := by
  obtain ⟨places, hx⟩ := reads os enc
  refine returnsInHanded_of_row (C := Tryd.checked) (s := OpenSpec.ofChange Rows.changedSpec) own started (by kernel_rfl) Tryd.func9
    (witness_row_at (enc := enc) (C := Tryd.checked) false (World.doorLaid Tryd.prog 400 os) #[.int .i64 0, .int .i64 0, .int .i64 0, .string ByteArray.empty, .slice none 0 0] rfl (by kernel_rfl) (by kernel_rfl) (by kernel_rfl)
      (OpenSpec.preRow_of_cond 8 hx (by kernel_rfl) (fun k hk => by cases hk) (by kernel_rfl) (laid_met os))) ?_
  intro W base args ds gs before hval hW _ _ hsized hL _ _
  exact contract H enc W base args ds gs before hval hW hsized hL

theorem said : Rows.ChangedSaid :=
  OpenClaim.holds_of_cond 9 Tryd.f9 rfl rfl rfl rfl rfl rfl rfl ⟨rfl, rfl, rfl, rfl, rfl⟩ rfl rfl rfl rfl rfl (by kernel_rfl) Tryd.func9 (by kernel_rfl)
    (of_decide_eq_true (by kernel_rfl)) (by unfold Func.isWrapper; first | (rw [if_pos (by decide +kernel)]; kernel_rfl) | (rw [if_neg (by decide +kernel)]; exact ⟨rfl, rfl⟩))
    (fun os started H enc _ F => by rw [OpenClaim.pre_eq_preRow]; exact lifted os started H enc F)

theorem plain (f : FuncId) (fn : Func) (hf : Tryd.pinned.checked.prog.funcNamed "wattle/wattlekeep.Changed" = some f) (hfn : Tryd.pinned.checked.prog.funcs[f]? = some fn) :
    false = Tryd.pinned.checked.prog.looks [] ∧ ∀ (j : Nat) t, fn.params[j]? = some t → Tryd.pinned.checked.prog.wantsStandIn t = false := by
  obtain rfl : f = 9 := Option.some.inj ((show Tryd.prog.funcNamed "wattle/wattlekeep.Changed" = some 9 by kernel_rfl).symm.trans hf) |>.symm
  obtain rfl : fn = Tryd.f9 := (Option.some.inj (Tryd.func9.symm.trans hfn)).symm
  refine ⟨by kernel_rfl, fun j t ht => ?_⟩
  rw [Tryd.params9] at ht
  have hm : t = 3 ∨ t = 9 ∨ t = 57 := by
    have := Array.mem_of_getElem? ht
    simp only [List.mem_toArray, List.mem_cons, List.not_mem_nil, or_false] at this
    rcases this with h | h | h | h | h <;> simp [h]
  rcases hm with rfl | rfl | rfl
  · exact (show Tryd.prog.wantsStandIn 3 = false by kernel_rfl)
  · exact (show Tryd.prog.wantsStandIn 9 = false by kernel_rfl)
  · exact (show Tryd.prog.wantsStandIn 57 = false by kernel_rfl)
end Go.Proofs.YtlnpppdffhibjaaDoor.ChangedCard
namespace Go.Proofs.YtlnpppdffhibjaaDoor
/-- ████ THE CARD ████ -/
theorem changed_card : Rows.ChangedCardSaid :=
  Claim7.holds_tied_plain_at .later [] _ _ _ _ ChangedCard.said (fun _ h => by cases h) (by kernel_rfl) (fun _ h => by cases h) changed_row_tie rfl ⟨rfl, rfl⟩ (by kernel_rfl) rfl ChangedCard.plain (by kernel_rfl)
end Go.Proofs.YtlnpppdffhibjaaDoor

