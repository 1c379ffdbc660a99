import Derived.Deep.CutRange
import Derived.Test.YtokmllopbfmadabDoorGPlanSt
import Derived.Test.YtokmllopbfmadabDoorGNSteps
import Derived.Test.YtokmllopbfmadabDoorGSpoilMath
namespace Go.Proofs.YtokmllopbfmadabDoor.Plans
open Go.RowKit Mem FieldWalks Tab ByTab Planes

theorem infoSlots : (Tryd.prog.info? 120).map (fun i => (i.zero, i.size)) = some (some (.agg (Array.replicate 1000 (.int .u64 0))), 1000) := by kernel_rfl
theorem zeroSlots (w : World) : (zeroValue 120).run Tryd.prog w = .ok (.agg (Array.replicate 1000 (.int .u64 0))) w := by
  obtain ⟨i, hi, h2⟩ := Option.map_eq_some_iff.1 infoSlots
  have hz : i.zero = some (.agg (Array.replicate 1000 (.int .u64 0))) := congrArg Prod.fst h2
  generalize (Array.replicate 1000 (Value.int .u64 0)) = Z at hz
  have : (typeInfo 120).run Tryd.prog w = .ok i w := by simp [typeInfo, hi]
  simp [zeroValue, this, hz]
theorem slotsU : Tryd.prog.underlying 120 = some (.array (Tryd.prog.arrayLen 120) (Tryd.prog.elem 120)) := by kernel_rfl
theorem slotsN : Tryd.prog.arrayLen 120 = 1000 := by kernel_rfl
theorem slotsE : Tryd.prog.elem 120 = 119 := by kernel_rfl
theorem wordSize (w : World) : (sizeOf 119).run Tryd.prog w = .ok 1 w := by kernel_rfl
theorem slots_cut (S lo : Nat) (x y : Int) (hx : x = (lo : Int)) (hy : y = (lo : Int) + 8) (h : lo + 8 ≤ 1000) (w : World) :
    (Instr.sliceAt 120 (.pointer (some ⟨S, 0, none⟩)) (some (.int .i64 x)) (some (.int .i64 y)) none).run Tryd.prog w = .ok (.slice (some ⟨S, lo, none⟩) 8 (1000 - lo)) w := by
  subst hx hy
  rw [run_sliceAt_array_lh w _ _ slotsU _ _ _ _ (by omega) (by omega) (by rw [slotsN]; omega), slotsE, wordSize, slotsN]
  have e1 : ((lo : Int) + 8).toNat = lo + 8 := by omega
  have e2 : ¬ 1000 = lo := by omega
  have e3 : (⟨S, 0, none⟩ : Addr).add (lo * 1) = ⟨S, lo, none⟩ := by rw [Nat.mul_one]; exact addr_add S lo
  simp only [Result.andThen, slicedAt, e1, Int.toNat_natCast, if_neg e2, e3, show lo + 8 - lo = 8 by omega]
/-- The slots' zero value. -/
def slotsZ : Array Value := Array.replicate 1000 (.int .u64 0)
theorem zeroSlots' (w : World) : (zeroValue 120).run Tryd.prog w = .ok (.agg slotsZ) w := zeroSlots w
theorem repl_words (n : Nat) : (Array.replicate n (Value.int .u64 0)).toList = wordsV (List.replicate n 0) := by
  unfold wordsV; rw [Array.toList_replicate, List.map_replicate]; rfl
theorem slotsZ_list : slotsZ.toList = wordsV (List.replicate 1000 0) := repl_words 1000
theorem wpList_alloc_big {P : Program} (w : World) {ops : Array Oper} {rest : List Oper} {o : Oper} {a : Act} {Q : Exit → Act → World → Prop}
    (hg : o.guard = none) (t : TypeId) (hop : o.op = Op.alloc t) (Z : Array Value) (hz : (zeroValue t).run P w = .ok (.agg Z) w)
    (hK : wpList P ops Q rest (a.put o.dst (.pointer (some ⟨w.heap.size, 0, none⟩))) (w.alloc (.cells Z t))) : wpList P ops Q (o :: rest) a w := by
  refine wpList_plain hg fun K' hK' => ?_
  unfold Oper.wp
  simp [execOp, hop, Instr.alloc, hz, Result.andThen]
  have hn : (newVar t (.agg Z)).run P w = .ok ⟨w.heap.size, 0, none⟩ (w.alloc (.cells Z t)) := rfl
  rw [hn]
  exact hK' _ _ hK
end Go.Proofs.YtokmllopbfmadabDoor.Plans

namespace Go.Proofs.YtokmllopbfmadabDoor.Plans
open Go.RowKit Mem FieldWalks Tab ByTab Planes
open Gf (sumTo addTo Bytes)

set_option maxRecDepth 100000 in
set_option maxHeartbeats 2000000 in
theorem sumsByPlan_any (rows ps : List (List Nat)) (L : Nat) (rv pv : Value) (w : World) (ht : Table w) (hr : RowsAt w rv rows) (hp : RowsC w pv ps) (hfit : Fit rows ps L) :
    Calls Tryd.prog 60 #[rv, pv] w fun e w' => ∃ v, e = .returned v ∧ RowsC w' v (sums rows ps L) ∧ Below w.heap.size w w' := by
  have hr0 := hr
  obtain ⟨rao, rcap, rfl, hrc⟩ := hr
  obtain ⟨pb, poff, pcap, rfl, hplt, hpc⟩ := hp.pos hfit.some
  have HR : Hid (RowsAt w (.slice rao rows.length rcap) rows) := hr0
  have HPC : Hid (∀ k, (h : k < ps.length) → ∃ u, w.cell? ⟨pb, poff + k, none⟩ = some u ∧ BsC w u ps[k]) := hpc
  have hfew := hfit.few
  have hless := hfit.less
  have hsh := hfit.short
  have hsome := hfit.some
  have HFIT : Hid (Fit rows ps L) := hfit
  obtain ⟨u0, hu0, ao0, ex0, rfl, hx0⟩ := hpc 0 hfit.some
  rw [hfit.len 0 hfit.some, Nat.add_zero] at hu0
  clear hr0 hrc hpc hx0 hp hfit
  go_enter Tryd.func60, Tryd.ntmps60
  go_wp2_with fail
  refine (steps_any rows ps.length _ _ ht HR.out HFIT.out.wide HFIT.out.rbytes hfew hless).mono ?_
  rintro e w1 ⟨sv, rfl, hss, hen, hb1⟩
  have HSS : Hid (StepsAt w1 sv (planTo rows ps.length ps.length)) := StepsAt.of_owns hss
  have HEN : Hid (Ends rows ps.length) := hen
  rw [← hb1.cell (p := ⟨pb, poff, none⟩) hplt] at hu0
  have hmr := fun w => make_rows rows.length (by omega) w
  have hmb := fun w => make_bytes L (by omega) w
  clear hss hen
  go_wp2
  clear hu0
  obtain ⟨B, hB⟩ : ∃ B, B = w1.heap.size := ⟨_, rfl⟩
  go_loopw [30] (fun iv wr => ∃ i : Nat, i ≤ rows.length ∧ iv = .int .i64 i ∧ wr.heap.size = w1.heap.size + 1 + i ∧ Blk wr w1.heap.size 56 (mix (rowsV w1.heap.size L rows.length) (List.replicate rows.length (.slice none 0 0)) i) ∧ (∀ k, k < i → Blk wr (w1.heap.size + 1 + k) 5 (bytesV (rowF L (fun _ => 0)))) ∧ Below w1.heap.size w1 wr) (fun iv _ => rows.length - (intOf iv).toNat)
  case atStart =>
    refine ⟨0, Nat.zero_le _, rfl, by simp, ?_, fun k hk => by omega, (Below.refl _ _).alloc (Nat.le_refl _) _⟩
    rw [mix_zero]; exact (Blk.new w1 _ _).eq (toList_madeCells_one _ _)
  case round =>
    obtain ⟨i, hi, rfl, hsz, hrow, heach, hbel⟩ := hrel
    by_cases hlt : i < rows.length
    · have hc1 := hrow.cell_some (k := i) (v := .slice none 0 0) (by rw [mix_at (by simp [rowsV_length]) (by simpa using hlt)]; simp)
      have hf1 := hrow.free i
      have HROW : Hid (Blk wr w1.heap.size 56 (mix (rowsV w1.heap.size L rows.length) (List.replicate rows.length (.slice none 0 0)) i)) := hrow
      have HEACH : Hid (∀ k, k < i → Blk wr (w1.heap.size + 1 + k) 5 (bytesV (rowF L (fun _ => 0)))) := heach
      have hBlt := hrow.lt
      have HSZ : Hid (wr.heap.size = w1.heap.size + 1 + i) := hsz
      clear hrow heach hsz
      go_wp2
      go_roundw
      case rel =>
        have hset := HROW.out.set i (.slice (some ⟨wr.heap.size, 0, none⟩) L L)
        have hsz := HSZ.out
        refine ⟨i + 1, by omega, by go_num, by simp [World.setCell, hsz]; omega, (hset.alloc _).eq ?_, fun k hk => ?_, (hbel.setCell (Nat.le_refl _) _).alloc (by rw [size_setCell]; omega) _⟩
        · rw [← mix_set (k := i) (by simp [rowsV_length]) (by simpa using hlt)]
          simp [rowsV, hsz]
        · by_cases e : k = i
          · subst e
            have := made_bytes (wr.setCell ⟨w1.heap.size, k, none⟩ (.slice (some ⟨wr.heap.size, 0, none⟩) L L)) L
            rw [size_setCell, hsz] at this
            rw [rowF_zero, hsz]; exact this
          · exact ((HEACH.out k (by omega)).other (by show w1.heap.size + 1 + k ≠ w1.heap.size; omega) _).alloc _
      case measure => simp [intOf]; omega
    · obtain rfl : rows.length = i := by omega
      have hall := mix_all (new := rowsV w1.heap.size L rows.length) (old := List.replicate rows.length (.slice none 0 0)) (by simp [rowsV_length])
      rw [List.length_replicate] at hall
      rw [hall] at hrow
      have HST : Hid (SumsSt wr w1.heap.size rows.length L (sumF rows ps L 0)) := ⟨hrow, fun i hi => (heach i hi).eq (by rw [rowF_congr (g := sumF rows ps L 0 i)]; intro q hq; simp [sumF])⟩
      have HBO : Hid (Below w1.heap.size w1 wr) := hbel
      obtain ⟨wo, rfl⟩ : ∃ wo, wo = wr := ⟨_, rfl⟩
      clear hall hrow heach hbel hsz hmr hmb
      go_wp2
      go_loopw [9] (fun sv wx => ∃ st : Nat, st ≤ L + 63 ∧ sv = .int .i64 st ∧ SumsSt wx w1.heap.size rows.length L (sumF rows ps L st) ∧ Below w1.heap.size w1 wx) (fun sv _ => L - (intOf sv).toNat)
      case atStart => exact ⟨0, Nat.zero_le _, rfl, HST.out, HBO.out⟩
      case round =>
        clear HST HBO
        obtain ⟨st, hst, rfl, hS, hbx⟩ := hrel
        obtain ⟨wi, rfl⟩ : ∃ wi, wi = wr := ⟨_, rfl⟩
        have HSU : Hid (SumsSt wi w1.heap.size rows.length L (sumF rows ps L st)) := hS
        clear hS
        by_cases hlt : st < L
        · go_upto_region 12 with fail
          go_cut [10] from 39 to 91 (fun s wx => ∃ en : Nat, st < en ∧ en ≤ L ∧ en ≤ st + 64 ∧ (en = L ∨ en = st + 64) ∧ s = .int .i64 en ∧ wi = wx)
          case first =>
            by_cases hle : st + 64 ≤ L
            · go_wp2
              go_meet
              case rel => exact ⟨st + 64, by omega, by omega, by omega, .inr rfl, by go_num, rfl⟩
            · go_wp2
              go_meet
              case rel => exact ⟨L, by omega, by omega, by omega, .inl rfl, by go_num, rfl⟩
          case rest =>
            obtain ⟨en, h1, h2, h3, h4, rfl, rfl⟩ := hcut
            have hszi := hbx.size
            have hsz1 := hb1.size
            have hbwi : Below w.heap.size w wi := hb1.trans (hbx.mono hsz1)
            obtain ⟨len, hlen⟩ : ∃ len, len = en - st := ⟨_, rfl⟩
            have HLEN : Hid (len = en - st) := hlen
            have HZ : Hid (Blk (wi.alloc (.cells slotsZ 120)) wi.heap.size 120 (wordsV (rowF 1000 (fillF ps st len 0)))) := by
              show Blk _ _ _ _
              rw [fillF_zero, rowF_zero]; exact (Blk.new wi _ _).eq slotsZ_list
            have HBW3 : Hid (Below w.heap.size w (wi.alloc (.cells slotsZ 120))) := hbwi.alloc (by omega) _
            clear hlen hbwi
            go_wp2_with (refine wpList_alloc_big _ rfl 120 rfl slotsZ (zeroSlots' _) ?_)
            go_loopw [50] (fun jv wq => ∃ j : Nat, j ≤ ps.length ∧ jv = .int .i64 j ∧ Blk wq wi.heap.size 120 (wordsV (rowF 1000 (fillF ps st len j))) ∧ But wi.heap.size (wi.alloc (.cells slotsZ 120)) wq) (fun jv _ => ps.length - (intOf jv).toNat)
            case atStart => exact ⟨0, Nat.zero_le _, rfl, HZ.out, But.refl _ _⟩
            case round =>
              clear HZ
              obtain ⟨j, hj, rfl, hsl, hbut⟩ := hrel
              by_cases hjlt : j < ps.length
              · obtain ⟨u, hu, hbs⟩ := HPC.out j hjlt
                have hbq : Below w.heap.size w wr := hbut.below HBW3.out (by omega) (by have := HBW3.out.size; omega)
                rw [← hbq.cell (p := ⟨pb, poff + j, none⟩) hplt] at hu
                have hlj := HFIT.out.len j hjlt
                obtain ⟨b, off, ex, rfl, hblt, hcut⟩ := BsC.cut hbs st en h1 (by omega)
                rw [hlj] at hu hcut
                have e1 : ps.getD j [] = ps[j] := by simp [hjlt]
                have HCUT : Hid (BsAt wr (.slice (some ⟨b, off + st, none⟩) (en - st) (L + ex - st)) ((ps[j].drop st).take len)) := by
                  rw [HLEN.out]; exact hcut.to hbq
                have hMj : 8 * j + 8 ≤ 1000 := by omega
                have HSL : Hid (Blk wr wi.heap.size 120 (wordsV (rowF 1000 (fillF ps st len j)))) := hsl
                have HBT : Hid (But wi.heap.size (wi.alloc (.cells slotsZ 120)) wr) := hbut
                have HNX : Hid (filled (fillF ps st len j) (8 * j) ((ps[j].drop st).take len) = fillF ps st len (j + 1)) := by
                  show _ = _
                  rw [← e1]; exact fillF_next ps st len j
                have HBYT : Hid (Bytes ((ps[j].drop st).take len)) := fun x hx => HFIT.out.pbytes j hjlt x (List.mem_of_mem_drop (List.mem_of_mem_take hx))
                have z1 : (0 : Int) ≤ 8 * (j : Int) := by omega
                have z2 : (0 : Int) ≤ 8 * (j : Int) + 8 := by omega
                have z3 : 8 * (j : Int) ≤ max (8 * (j : Int) + 8) 0 := by omega
                have z4 : (8 * (j : Int)).toNat = 8 * j := by omega
                have z5 : (8 * (j : Int) + 8).toNat = 8 * j + 8 := by omega
                have z6 : 8 * (j : Int) + 8 ≤ 1000 := by omega
                have z7 : ¬ 1000 = 8 * j := by omega
                have z8 : IntKind.i64.wrap (8 * (j : Int)) = 8 * (j : Int) := by rw [IntKind.wrap_i64]; omega
                have z9 : IntKind.i64.wrap (8 * (j : Int) + 8) = 8 * (j : Int) + 8 := by rw [IntKind.wrap_i64]; omega
                have q3 : st ≤ en := by omega
                have q4 : en ≤ L + ex := by omega
                have q5 : (en : Int) ≤ (L : Int) + (ex : Int) := by omega
                have q6 : ¬ L + ex = st := by omega
                have hsc := fun w => slots_cut wi.heap.size (8 * j) (8 * (j : Int)) (8 * (j : Int) + 8) (by omega) (by omega) hMj w
                clear hcut hsl hbut e1 hbs hlj
                go_wp2
                go_region_with (go_at_call 70; refine (fillSlots_any (fillF ps st len j) 1000 (8 * j) _ wi.heap.size ((ps[j].drop st).take len) _ _ (by exact HSL.out) hMj (fun b hb => by unfold fillF; rw [if_neg (by omega)]) (by exact HCUT.out) (fun b' off' n' c' h => by injection h with h; injection h with h; injection h; omega) HBYT.out (by have := HLEN.out; rw [List.length_take]; omega)).mono ?_; rintro e w4 ⟨rfl, hblk4, hbut4⟩)
                all_goals
                  rw [HNX.out] at hblk4
                  have HB4 : Hid (Blk w4 wi.heap.size 120 (wordsV (rowF 1000 (fillF ps st len (j + 1))))) := hblk4
                  have HU4 : Hid (But wi.heap.size (wi.alloc (.cells slotsZ 120)) w4) := HBT.out.drew.trans hbut4
                  clear hblk4 hbut4
                  go_wp2
                  go_roundw
                  case rel => exact ⟨j + 1, by omega, by go_num, HB4.out, HU4.out⟩
                  case measure => simp [intOf]; omega
              · obtain rfl : ps.length = j := by omega
                have HS3 : Hid (StepsAt wr sv (planTo rows ps.length ps.length)) := ((HSS.out.to hbx).to ((Below.refl _ _).alloc (Nat.le_refl _) _)).but hbut ((Blk.new wi slotsZ 120)) (by decide)
                have HSU3 : Hid (SumsSt wr w1.heap.size rows.length L (sumF rows ps L st)) := (HSU.out.to ((Below.refl _ _).alloc (Nat.le_refl _) _)).but hbut ((Blk.new wi slotsZ 120))
                have HSL3 : Hid (Blk wr wi.heap.size 120 (wordsV (rowF 1000 (fillF ps st len ps.length)))) := hsl
                have HBX3 : Hid (Below w1.heap.size w1 wr) := hbut.below (hbx.alloc hszi _) hszi (by simp; omega)
                have HOK3 : Hid (∀ k, (h : k < (planTo rows ps.length ps.length).length) → (planTo rows ps.length ps.length)[k].ok 1000) := (plan_fine HEN.out hfew hless ps.length (Nat.le_refl _)).ok
                have HSN3 : Hid ((planTo rows ps.length ps.length).length ≤ 1000000) := by
                  have h1 := plan_few HEN.out ps.length (Nat.le_refl _)
                  have h0 := needsTo_le rows ps.length
                  have h2 : 64 * rows.length * ps.length ≤ 64 * 6 * 100 := Nat.mul_le_mul (Nat.mul_le_mul_left _ hless) hfew
                  show _ ≤ _
                  omega
                obtain ⟨wf, rfl⟩ : ∃ wf, wf = wr := ⟨_, rfl⟩
                clear hbut hsl
                go_wp2_with fail
                refine (runSteps_any (fillF ps st len ps.length) 1000 wi.heap.size 1000 (planTo rows ps.length ps.length) sv _ HSL3.out HS3.out HOK3.out HSN3.out (fillF_lt _ _ _ _)).mono ?_
                rintro e w5 ⟨rfl, hblk5, hbut5⟩
                have HSU5 : Hid (SumsSt w5 w1.heap.size rows.length L (sumG rows ps L st en 0)) := by
                  show SumsSt _ _ _ _ _
                  rw [sumG_zero]; exact HSU3.out.but hbut5 HSL3.out
                have HSL5 : Hid (Blk w5 wi.heap.size 120 (wordsV (rowF 1000 (ran rows ps st len)))) := hblk5
                have HBX5 : Hid (Below w1.heap.size w1 w5) := hbut5.below HBX3.out hszi (by have := HBX3.out.size; omega)
                clear hblk5 hbut5 HSU3 HSL3 HBX3 HS3 HOK3 HSN3 HSU
                go_wp2
                go_loopw [72] (fun iv wq => ∃ i : Nat, i ≤ rows.length ∧ iv = .int .i64 i ∧ SumsSt wq w1.heap.size rows.length L (sumG rows ps L st en i) ∧ Blk wq wi.heap.size 120 (wordsV (rowF 1000 (ran rows ps st len))) ∧ Below w1.heap.size w1 wq) (fun iv _ => rows.length - (intOf iv).toNat)
                case atStart => exact ⟨0, Nat.zero_le _, rfl, HSU5.out, HSL5.out, HBX5.out⟩
                case round =>
                  clear HSU5 HSL5 HBX5
                  obtain ⟨i, hi6, rfl, hsu, hsl, hbq⟩ := hrel
                  by_cases hilt : i < rows.length
                  · have hrow := hsu.row.cell_some (rowsV_at hilt)
                    have heach := (hsu.each i hilt).eq (us := bytesV (rowF L (sumF rows ps L st i))) (by rw [rowF_congr (g := sumF rows ps L st i)]; intro q hq; unfold sumG; rw [if_neg (by omega)])
                    have HSU6 : Hid (SumsSt wr w1.heap.size rows.length L (sumG rows ps L st en i)) := hsu
                    have HEA6 : Hid (Blk wr (w1.heap.size + 1 + i) 5 (bytesV (rowF L (sumF rows ps L st i)))) := heach
                    have HSL6 : Hid (Blk wr wi.heap.size 120 (wordsV (rowF 1000 (ran rows ps st len)))) := hsl
                    have HNX6 : Hid (∀ k, k < rows.length → ∀ q, q < L → (if k = i then readTo (sumF rows ps L st i) (ran rows ps st len) (8 * (ps.length + i)) st (en - st) else sumG rows ps L st en i k) q = sumG rows ps L st en (i + 1) k q) := sumG_next rows ps L st en len i HEN.out HFIT.out h1 h3 HLEN.out hilt
                    have HBQ6 : Hid (Below w1.heap.size w1 wr) := hbq
                    obtain ⟨o, ho⟩ : ∃ o, o = 8 * (ps.length + i) := ⟨_, rfl⟩
                    rw [← ho] at HNX6
                    have eo : 8 * ((ps.length : Int) + (i : Int)) = (o : Int) := by omega
                    have hoM : o + 8 ≤ 1000 := by omega
                    have z1 : (0 : Int) ≤ (o : Int) + 8 := by omega
                    have z2 : (o : Int) ≤ max ((o : Int) + 8) 0 := by omega
                    have z3 : ((o : Int) + 8).toNat = o + 8 := by omega
                    have z4 : (o : Int) + 8 ≤ 1000 := by omega
                    have z5 : ¬ 1000 = o := by omega
                    have z6 : IntKind.i64.wrap ((o : Int) + 8) = (o : Int) + 8 := by rw [IntKind.wrap_i64]; omega
                    have q1 : st ≤ en := by omega
                    have q2 : (en : Int) ≤ (L : Int) := by omega
                    have q3 : ¬ L = st := by omega
                    have hszq := hbq.size
                    have hsc := fun w => slots_cut wi.heap.size o (o : Int) ((o : Int) + 8) rfl rfl hoM w
                    clear hsu heach hsl hbq ho
                    go_wp2
                    go_region_with (go_at_call 72; refine (readSlots_any (ran rows ps st len) (sumF rows ps L st i) 1000 o _ wi.heap.size (w1.heap.size + 1 + i) L st (en - st) _ _ (by exact HSL6.out) (by exact HEA6.out) hoM (fun i _ => ran_lt _ _ _ _ i) (by omega) (by omega) (fun k hk => by unfold sumF; rw [if_neg (by omega)])).mono ?_; rintro e w7 ⟨rfl, hblk7, hbut7⟩)
                    all_goals
                      have hsu7 := (SumsSt.put (w := wr.drew) ⟨by exact HSU6.out.row, fun i hi => by exact HSU6.out.each i hi⟩ hbut7 hblk7).congr HNX6.out
                      have HSU7 : Hid (SumsSt w7 w1.heap.size rows.length L (sumG rows ps L st en (i + 1))) := hsu7
                      have HSL7 : Hid (Blk w7 wi.heap.size 120 (wordsV (rowF 1000 (ran rows ps st len)))) := hbut7.blk (by exact HSL6.out) (Blk.type_ne (w := wr) HSL6.out HEA6.out (by decide))
                      have HBX7 : Hid (Below w1.heap.size w1 w7) := hbut7.below HBQ6.out.drew (by omega) (by exact hszq)
                      clear hsu7 hblk7 hbut7
                      go_wp2
                      go_roundw
                      case rel => exact ⟨i + 1, by omega, by go_num, HSU7.out, HSL7.out, HBX7.out⟩
                      case measure => simp [intOf]; omega
                  · obtain rfl : rows.length = i := by omega
                    have HSU8 : Hid (SumsSt wr w1.heap.size rows.length L (sumF rows ps L (st + 64))) := hsu.congr (sumG_all rows ps L st en h3 h4)
                    clear hsu
                    go_wp2
                    go_roundw
                    case rel => exact ⟨st + 64, by omega, by go_num, HSU8.out, hbq⟩
                    case measure => simp [intOf]; omega
        · have HRS := HSU.out.rows (ps := ps) HFIT.out.len (fun i hi q hq => by unfold sumF; rw [if_pos (by omega)])
          have HRS2 : Hid (RowsC wi (.slice (some ⟨w1.heap.size, 0, none⟩) rows.length rows.length) (sums rows ps L)) := HRS
          have HBF : Hid (Below w.heap.size w wi) := hb1.trans (hbx.mono hb1.size)
          clear HRS HSU
          go_wp2
          go_ret
          exact ⟨_, rfl, HRS2.out, HBF.out⟩
end Go.Proofs.YtokmllopbfmadabDoor.Plans

namespace Go.Proofs.YtokmllopbfmadabDoor.Top
open Go.RowKit Mem FieldWalks Tab ByTab Parts

set_option maxRecDepth 100000 in
set_option maxHeartbeats 1000000 in
/-- ████ Sums, in each of the three ways. ████ -/
theorem sums_any : SumsOk := by
  intro x rows ps L rv pv w hx ht hr hp hfit
  rcases (show x = 0 ∨ x = 1 ∨ x = 2 by omega) with rfl | rfl | rfl
  · go_enter Tryd.func52, Tryd.ntmps52
    go_wp2_with fail
    refine (sumsByTables_any rows ps L rv pv _ ht hr hp.rows hfit).mono ?_
    rintro e w1 ⟨v, rfl, hrow, hb⟩
    go_wp2
    go_ret
    exact ⟨_, rfl, hrow, hb⟩
  · go_enter Tryd.func52, Tryd.ntmps52
    go_wp2_with fail
    refine (Planes.sumsByPlanes_any rows ps L rv pv _ ht hr hp.rows hfit).mono ?_
    rintro e w1 ⟨v, rfl, hrow, hb⟩
    go_wp2
    go_ret
    exact ⟨_, rfl, hrow, hb⟩
  · go_enter Tryd.func52, Tryd.ntmps52
    go_wp2_with fail
    refine (Plans.sumsByPlan_any rows ps L rv pv _ ht hr hp hfit).mono ?_
    rintro e w1 ⟨v, rfl, hrow, hb⟩
    go_wp2
    go_ret
    exact ⟨_, rfl, hrow, hb⟩
end Go.Proofs.YtokmllopbfmadabDoor.Top
