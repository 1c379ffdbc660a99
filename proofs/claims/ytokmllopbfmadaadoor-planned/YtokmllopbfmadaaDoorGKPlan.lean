import Derived.Deep.RegionHeld3
import Derived.Test.YtokmllopbfmadaaDoorGKPick
import Derived.Test.YtokmllopbfmadaaDoorGKSpread
import Derived.Test.YtokmllopbfmadaaDoorGNBig
import Derived.Test.YtokmllopbfmadaaDoorGNPlan
import Derived.Test.YtokmllopbfmadaaDoorGByPlanes
namespace Go.Proofs.YtokmllopbfmadaaDoor.KeepW
open Go.RowKit Mem FieldWalks Tab ByTab Parts Ref Top Plans

/-- The data pieces' bits, in their slots. -/
def bit0 (d : Nat) (bs : List Nat) (q : Nat) : Nat := if q < 8 * d then bs.getD (q / 8) 0 / 2 ^ (q % 8) % 2 else 0
/-- What P7 asks of a plan. -/
structure Good (d s : Nat) (ss : List Stp) : Prop where
  right : ∀ k, (h : k < ss.length) → RightAt d s ss k h
  few : ss.length ≤ turnsTo d s d
  comes : ∀ bs : List Nat, Gf.Bytes bs → bs.length = d → ∀ i, 8 * d ≤ i → i < 8 * (d + s) → runOn (bit0 d bs) ss i = (nums ((pieces d s (mkS bs)).getD (i / 8) ByteArray.empty)).getD 0 0 / 2 ^ (i % 8) % 2
/-- What the program's Plan is to be. -/
def PlanYes (Pre : World → Prop) : Prop := ∀ (d s : Nat) (w : World), 1 ≤ d → d ≤ 10 → s ≤ 6 → Pre w → Table w →
  Calls Tryd.prog 36 #[.int .i64 d, .int .i64 s] w fun e w' => ∃ v ss, e = .returned (.tuple #[v, .int .i64 0]) ∧ StepsAt w' v ss ∧ Good d s ss ∧ Below w.heap.size w w'
/-- The bytes that are taken, behind k of them. -/
def takeTo (d : Nat) (bytes : ByteArray) (k : Nat) : List Nat := (List.range d).map fun q => if q < k then (nums bytes).getD q 0 else 0
def taken (d : Nat) (bytes : ByteArray) : List Nat := (List.range d).map fun q => (nums bytes).getD q 0
theorem takeTo_all (d : Nat) (bytes : ByteArray) (k : Nat) (h : ¬ (k < d ∧ k < bytes.size)) : takeTo d bytes k = taken d bytes := List.map_congr_left fun q hq => by
  have := List.mem_range.1 hq
  by_cases hk : q < k
  · rw [if_pos hk]
  · rw [if_neg hk, List.getD_eq_getElem?_getD, List.getElem?_eq_none (by rw [nums_length]; omega)]; rfl
theorem takeTo_next (d : Nat) (bytes : ByteArray) (k : Nat) (hk : k < d) (hb : k < bytes.size) : (takeTo d bytes k).set k (bytes[k]'hb).toNat = takeTo d bytes (k + 1) := by
  apply List.ext_getElem?
  intro q
  by_cases hq : q < d
  · by_cases e : q = k
    · subst e
      rw [List.getElem?_set_self (by simp [takeTo]; omega)]
      simp only [takeTo, List.getElem?_map, List.getElem?_range hq, Option.map_some]
      rw [if_pos (by omega), nums_get bytes q hb]
    · rw [List.getElem?_set_ne (by omega)]
      simp only [takeTo, List.getElem?_map, List.getElem?_range hq, Option.map_some]
      congr 1
      by_cases h : q < k
      · rw [if_pos h, if_pos (by omega)]
      · rw [if_neg h, if_neg (by omega)]
  · rw [List.getElem?_eq_none (by simp [takeTo]; omega), List.getElem?_eq_none (by simp [takeTo]; omega)]
theorem takeTo_none (d : Nat) (bytes : ByteArray) : bytesV (takeTo d bytes 0) = List.replicate d (.int .u8 0) := by
  apply List.ext_getElem
  · simp [takeTo]
  · intro i h1 h2; simp [takeTo, bytesV]
theorem taken_bytes (d : Nat) (bytes : ByteArray) : Gf.Bytes (taken d bytes) := by
  intro x hx
  simp only [taken, List.mem_map, List.mem_range] at hx
  obtain ⟨q, _, rfl⟩ := hx
  exact (nums_bytes bytes).getD q

theorem intsV_at' {l : List Nat} {k : Nat} (h : k < l.length) : (intsV l)[k]? = some (.int .i64 (l[k] : Nat)) := by simp [intsV, h]
theorem intsV_set' (l : List Nat) (k n : Nat) : (intsV l).set k (.int .i64 (n : Int)) = intsV (l.set k n) := by simp [intsV, List.map_set]
theorem rowI_at {w : World} {S m k : Nat} {f : Nat → Nat} (h : Blk w S 3 (intsV (rowF m f))) (hk : k < m) : w.cell? ⟨S, k, none⟩ = some (.int .i64 (f k : Nat)) := by
  rw [h.cell_some (intsV_at' (show k < (rowF m f).length by simpa using hk)), rowF_at]
theorem rowI_set {w : World} {S m : Nat} {f : Nat → Nat} (h : Blk w S 3 (intsV (rowF m f))) (k x : Nat) : Blk (w.setCell ⟨S, k, none⟩ (.int .i64 (x : Nat))) S 3 (intsV (rowF m (upd f k x))) :=
  (h.set k _).eq (by rw [intsV_set', rowF_set])
theorem runOn_bit (ss : List Stp) : ∀ (f : Nat → Nat), (∀ i, f i < 2) → ∀ i, runOn f ss i < 2 := by
  induction ss with
  | nil => intro f hf; exact hf
  | cons s ss ih =>
    intro f hf
    refine ih _ (upd_lt hf ?_)
    split
    · exact hf _
    · exact Nat.xor_lt_two_pow (n := 1) (hf _) (hf _)
theorem bit0_lt (d : Nat) (bs : List Nat) (q : Nat) : bit0 d bs q < 2 := by
  unfold bit0; split
  · exact Nat.mod_lt _ (by decide)
  · decide
def bitTo (d : Nat) (bs : List Nat) (k q : Nat) : Nat := if q < k then bit0 d bs q else 0
theorem bitTo_all (d : Nat) (bs : List Nat) : rowF 1000 (bitTo d bs (8 * d)) = rowF 1000 (bit0 d bs) := rowF_congr fun q _ => by
  unfold bitTo bit0; by_cases h : q < 8 * d <;> simp [h]
theorem bitTo_next (d : Nat) (bs : List Nat) (k : Nat) : upd (bitTo d bs k) k (bit0 d bs k) = bitTo d bs (k + 1) := by
  funext q
  unfold upd bitTo
  by_cases e : q = k
  · subst e; simp
  · have : q < k + 1 ↔ q < k := by omega
    simp [e, this]
set_option maxRecDepth 100000 in
set_option maxHeartbeats 4000000 in
theorem planned_any (hS : SumsOk) (Pre : World → Prop) (hP : PlanYes Pre) (data spare : Int) (bytes : ByteArray) (w : World) (ht : Table w) (hpre : Pre w) (hw0 : 0 < w.heap.size) (hlen : bytes.size ≤ 9223372036854775807) (hd1 : -9223372036854775808 ≤ data) (hd2 : data ≤ 9223372036854775807) (hs1 : -9223372036854775808 ≤ spare) (hs2 : spare ≤ 9223372036854775807) :
    Calls Tryd.prog 11 #[.int .i64 data, .int .i64 spare, .string bytes] w fun e w' => e = .returned (.bool true) ∧ Below w.heap.size w w' := by
  obtain ⟨d', hd'⟩ : ∃ d', d' = pickI data 10 := ⟨_, rfl⟩
  obtain ⟨s, hs⟩ : ∃ s, s = pickI spare 7 := ⟨_, rfl⟩
  have b1 := pickI_lt data 10 (by omega)
  have b2 := pickI_lt spare 7 (by omega)
  have P1 : Hid (∀ W, Calls Tryd.prog 19 #[.int .i64 data, .int .i64 10] W fun e w' => e = .returned (.int .i64 (d' : Nat)) ∧ w' = W) := by
    intro W; rw [hd']; exact kpick_any data 10 W (by omega) (by omega) hd1 hd2
  have P2 : Hid (∀ W, Calls Tryd.prog 19 #[.int .i64 spare, .int .i64 7] W fun e w' => e = .returned (.int .i64 (s : Nat)) ∧ w' = W) := by
    intro W; rw [hs]; exact kpick_any spare 7 W (by omega) (by omega) hs1 hs2
  rw [← hd'] at b1
  rw [← hs] at b2
  obtain ⟨d, hd⟩ : ∃ d, d = 1 + d' := ⟨_, rfl⟩
  have hdd : Hid (1 + (d' : Int) = (d : Int)) := by show _ = _; omega
  have hd10 : d ≤ 10 := by omega
  have hd0 : 1 ≤ d := by omega
  have hs6 : s ≤ 6 := by omega
  have HPL : Hid (Calls Tryd.prog 36 #[.int .i64 d, .int .i64 s] w fun e w' => ∃ v ss, e = .returned (.tuple #[v, .int .i64 0]) ∧ StepsAt w' v ss ∧ Good d s ss ∧ Below w.heap.size w w') := hP d s w hd0 hd10 hs6 hpre ht
  have HT : Hid (Table w) := ht
  clear hd' hs hd hpre ht
  go_enter Tryd.func11, Tryd.ntmps11
  go_wp2_with fail
  refine (P1.out _).mono ?_
  rintro e w1 ⟨rfl, hw1⟩
  obtain rfl : w = w1 := hw1.symm
  go_wp2_with fail
  rw [hdd.out]
  refine (P2.out _).mono ?_
  rintro e w1 ⟨rfl, hw1⟩
  obtain rfl : w = w1 := hw1.symm
  go_wp2_with fail
  refine Calls.mono HPL.out ?_
  rintro e w2 ⟨v, ss, rfl, hst, hgood, hb2⟩
  have HST : Hid (StepsAt w2 v ss) := hst
  have HG : Hid (Good d s ss) := hgood
  have hT2 : Table w2 := table_below HT.out hb2 hw0
  have hw20 : 0 < w2.heap.size := Nat.lt_of_lt_of_le hw0 hb2.size
  have HTU : Hid (Calls Tryd.prog 41 #[.int .i64 d, .int .i64 s] w2 fun e w' => e = .returned (.int .i64 (turnsTo d s d : Nat)) ∧ Below w2.heap.size w2 w') := turns_any hS d s hd0 hd10 hs6 w2 hT2 hw20
  have hle : turnsTo d s d ≤ 4000 := by
    have := turnsTo_le d s d
    have h1 := Nat.mul_le_mul (Nat.mul_le_mul_left 64 hs6) hd10; omega
  have hfew := hgood.few
  have HBW2 : Hid (Below w.heap.size _ w2) := hb2
  clear hst hgood hb2 HPL P1 P2 hdd b1 hT2
  go_wp2_with fail
  refine Calls.mono HTU.out ?_
  rintro e w3 ⟨rfl, hb3⟩
  have HST3 : Hid (StepsAt w3 v ss) := HST.out.to hb3
  have HB3 : Hid (Below w.heap.size _ w3) := HBW2.out.trans (hb3.mono HBW2.out.size)
  go_wp2_with fail
  refine (right_yes d s hd10 hs6 ss HG.out.right v _ HST3.out (by omega)).mono ?_
  rintro e w4 ⟨rfl, hb4⟩
  have HST4 : Hid (StepsAt w4 v ss) := HST3.out.to hb4
  have HB4 : Hid (Below w.heap.size _ w4) := HB3.out.trans (hb4.mono HB3.out.size)
  obtain ⟨ao, cap, rfl, _⟩ := HST4.out
  clear HST HST3 HBW2 HB3 hb3 hb4 HTU
  generalize turnsTo d s d = tn at hle hfew
  have hgt : ¬ ((tn : Int) < (ss.length : Int)) := by omega
  have hdec : decide (tn < ss.length) = false := decide_eq_false (by omega)
  have hmk := fun w => make_bytes d (by omega) w
  have hmi : ∀ w, (Instr.makeSlice 45 (.int .i64 1000) (.int .i64 1000)).run Tryd.prog w = .ok (.slice (some ⟨w.heap.size, 0, none⟩) 1000 1000) (w.alloc (.cells (madeCells #[.int .i64 0] 1000) 3)) := fun w => make_ints 1000 (by omega) w
  go_wp2
  have HB0 : Hid (Blk (w4.alloc (.cells (madeCells #[.int .u8 0] d) 5)) w4.heap.size 5 (bytesV (takeTo d bytes 0))) := (Blk.new w4 _ _).eq (by rw [toList_madeCells_one, takeTo_none])
  have HBE0 : Hid (Below w4.heap.size w4 (w4.alloc (.cells (madeCells #[.int .u8 0] d) 5))) := (Below.refl _ _).alloc (Nat.le_refl _) _
  obtain ⟨T, hT⟩ : ∃ T, T = w4.heap.size := ⟨_, rfl⟩
  have HTL : Hid (w4.heap.size ≤ T) := by show _ ≤ _; omega
  rw [← hT] at HB0 ⊢
  clear hT hmk
  go_loopw [14] (fun i wr => ∃ k : Nat, k ≤ d ∧ k ≤ bytes.size ∧ i = .int .i64 k ∧ Blk wr T 5 (bytesV (takeTo d bytes k)) ∧ Below w4.heap.size w4 wr) (fun i _ => d - (intOf i).toNat)
  case atStart => exact ⟨0, Nat.zero_le _, Nat.zero_le _, rfl, HB0.out, HBE0.out⟩
  case round =>
    clear HB0 HBE0
    obtain ⟨k, hk, hkb, rfl, hB, hbel⟩ := hrel
    by_cases hlt : k < d ∧ k < bytes.size
    · have l1 := hlt.1
      have l2 := hlt.2
      have f1 := hB.cell_some (bytesV_at (show k < (takeTo d bytes k).length by simp [takeTo]; omega))
      have f2 := hB.free k
      have HB : Hid (Blk wr T 5 (bytesV (takeTo d bytes k))) := hB
      have HBE : Hid (Below w4.heap.size w4 wr) := hbel
      have q1 : (k : Int) < (d : Int) := by omega
      have q2 : (k : Int) < (bytes.size : Int) := by omega
      clear hB hbel hlt
      go_wp2
      go_roundw
      case rel =>
        refine ⟨k + 1, by omega, by omega, by go_num, ?_, HBE.out.setCell HTL.out _⟩
        exact (HB.out.set _ _).eq (by rw [bytesV_set, takeTo_next d bytes k l1 l2])
      case measure => simp [intOf]; omega
    · obtain ⟨wo, rfl⟩ : ∃ wo, wo = wr := ⟨_, rfl⟩
      rw [takeTo_all d bytes k hlt] at hB
      obtain ⟨bs, hbs⟩ : ∃ bs, bs = taken d bytes := ⟨_, rfl⟩
      rw [← hbs] at hB
      have hbb : Gf.Bytes bs := by rw [hbs]; exact taken_bytes _ _
      have hbl : bs.length = d := by rw [hbs]; simp [taken]
      have HBT : Hid (Blk wo T 5 (bytesV bs)) := hB
      have HBO : Hid (Below w4.heap.size w4 wo) := hbel
      have hTlt := hB.lt
      have q1 : Hid ((k : Int) < (d : Int) ∧ ¬ (k : Int) < (bytes.size : Int) ∨ ¬ (k : Int) < (d : Int)) := by show _ ∨ _; omega
      clear hB hbel hlt hbs
      rcases q1.out with ⟨q2, q3⟩ | q2
      all_goals
        clear q1
        go_wp2
        have HS0 : Hid (Blk (wo.alloc (.cells (madeCells #[.int .i64 0] 1000) 3)) wo.heap.size 3 (intsV (rowF 1000 (bitTo d bs 0)))) := (made_ints wo 1000).eq (by rw [← rowF_zero]; congr 1)
        have HSE0 : Hid (Below wo.heap.size wo (wo.alloc (.cells (madeCells #[.int .i64 0] 1000) 3))) := (Below.refl _ _).alloc (Nat.le_refl _) _
        obtain ⟨S, hSe⟩ : ∃ S, S = wo.heap.size := ⟨_, rfl⟩
        have HSL : Hid (wo.heap.size ≤ S) := by show _ ≤ _; omega
        rw [← hSe] at HS0 ⊢
        clear hSe hmi
        go_loopw [16] (fun i wr => ∃ k : Nat, k ≤ 8 * d ∧ i = .int .i64 k ∧ Blk wr S 3 (intsV (rowF 1000 (bitTo d bs k))) ∧ Below wo.heap.size wo wr) (fun i _ => 8 * d - (intOf i).toNat)
        case atStart => exact ⟨0, Nat.zero_le _, rfl, HS0.out, HSE0.out⟩
        case round =>
          clear HS0 HSE0
          obtain ⟨m, hm, rfl, hB, hbel⟩ := hrel
          by_cases hlt : m < 8 * d
          · have hm8 : m / 8 < bs.length := by omega
            have c1 := (hbel.cell (p := ⟨T, m / 8, none⟩) hTlt).trans (HBT.out.cell_some (bytesV_at hm8))
            have hy := hbb.at (m / 8) hm8
            have E : Hid (bit0 d bs m = bs[m / 8] / 2 ^ (m % 8) % 2) := by
              show _ = _
              unfold bit0
              rw [if_pos hlt, List.getD_eq_getElem?_getD, List.getElem?_eq_getElem hm8, Option.getD_some]
            generalize bs[m / 8] = y at c1 hy E
            have f1 := rowI_at hB (show m < 1000 by omega)
            have f2 := hB.free m
            have HB : Hid (Blk wr S 3 (intsV (rowF 1000 (bitTo d bs m)))) := hB
            have HBE : Hid (Below wo.heap.size wo wr) := hbel
            have q4 : (m : Int) < 8 * (d : Int) := by omega
            clear hB hbel
            have EV : Hid (((y : Int) / 2 ^ (m % 8)).tmod 2 = ((bit0 d bs m : Nat) : Int)) := by
              show _ = _
              rw [E.out, Gf.cast_shr]
              generalize y / 2 ^ (m % 8) = z
              rw [Int.tmod_eq_emod_of_nonneg (by omega)]; omega
            go_wp2
            go_roundw
            case rel =>
              refine ⟨m + 1, by omega, by go_num, ?_, HBE.out.setCell HSL.out _⟩
              rw [EV.out, ← bitTo_next]
              exact rowI_set HB.out m _
            case measure => simp [intOf]; omega
          · have hm8e : m = 8 * d := by omega
            obtain ⟨wp, rfl⟩ : ∃ wp, wp = wr := ⟨_, rfl⟩
            have HB1 : Hid (Blk wp S 3 (intsV (rowF 1000 (runOn (bit0 d bs) (ss.take 0))))) := hB.eq (by rw [hm8e, bitTo_all]; rfl)
            have HBE1 : Hid (Below wo.heap.size wo wp) := hbel
            have q4 : ¬ (m : Int) < 8 * (d : Int) := by omega
            obtain ⟨m8, hm8⟩ : ∃ z : Nat, z = m := ⟨_, rfl⟩
            rw [← hm8] at q4 ⊢
            clear hm8 hm8e hm hlt hB hbel
            go_wp2
            go_loopw [17] (fun i wr => ∃ n : Nat, n ≤ ss.length ∧ i = .int .i64 n ∧ Blk wr S 3 (intsV (rowF 1000 (runOn (bit0 d bs) (ss.take n)))) ∧ Below wo.heap.size wo wr) (fun i _ => ss.length - (intOf i).toNat)
            case atStart => exact ⟨0, Nat.zero_le _, rfl, HB1.out, HBE1.out⟩
            case round =>
              clear HB1 HBE1
              obtain ⟨n, hn, rfl, hB, hbel⟩ := hrel
              by_cases hlt : n < ss.length
              · have HB4r : Below w4.heap.size w4 wr := HBO.out.trans (hbel.mono HBO.out.size)
                obtain ⟨g, cap', ev, hg, hc⟩ := steps_cells (HST4.out.to HB4r) (by omega)
                injection ev with ev1 ev2 ev3
                subst ev1; subst ev3
                clear ev2
                obtain ⟨j0, j1, j2⟩ := hc n hlt
                have hR := HG.out.right n hlt
                have r2 := hR.hi
                have r3 := hR.src
                have E : Hid (runOn (bit0 d bs) (ss.take (n + 1)) = step1 (runOn (bit0 d bs) (ss.take n)) ss[n]) := runOn_take _ _ n hlt
                have HFK : Hid (∀ i, runOn (bit0 d bs) (ss.take n) i < 2) := runOn_bit _ _ (bit0_lt d bs)
                generalize ss[n] = st at j0 j1 j2 r2 r3 E
                obtain ⟨t2, src', fr'⟩ := st
                simp only at j0 j1 j2 r2 r3
                generalize runOn (bit0 d bs) (ss.take n) = h at hB E HFK
                have ct := rowI_at hB r2
                have cs := rowI_at hB r3
                have ft := hB.free t2
                have HB : Hid (Blk wr S 3 (intsV (rowF 1000 h))) := hB
                have HBE : Hid (Below wo.heap.size wo wr) := hbel
                have hni : (n : Int) < (ss.length : Int) := by omega
                clear hB hbel hc hR HB4r
                cases fr'
                · have EX : Hid (bits .xor .i64 (h t2 : Int) (h src' : Int) = ((h t2 ^^^ h src' : Nat) : Int)) := Gf.i64_xor _ _ (Nat.lt_trans (HFK.out _) (by decide)) (Nat.lt_trans (HFK.out _) (by decide))
                  go_wp2
                  go_region
                  go_wp2
                  go_roundw
                  case rel =>
                    refine ⟨n + 1, by omega, by go_num, ?_, (HBE.out.setCell HSL.out _).drew⟩
                    rw [EX.out, E.out]
                    exact (rowI_set HB.out t2 _).drew
                  case measure => simp [intOf]; omega
                · go_wp2
                  go_region
                  go_wp2
                  go_roundw
                  case rel =>
                    refine ⟨n + 1, by omega, by go_num, ?_, (HBE.out.setCell HSL.out _).drew⟩
                    rw [E.out]
                    exact (rowI_set HB.out t2 _).drew
                  case measure => simp [intOf]; omega
              · obtain rfl : n = ss.length := by omega
                rw [List.take_length] at hB
                have HCO : Hid (∀ i, 8 * d ≤ i → i < 8 * (d + s) → runOn (bit0 d bs) ss i = (nums ((pieces d s (mkS bs)).getD (i / 8) ByteArray.empty)).getD 0 0 / 2 ^ (i % 8) % 2) := HG.out.comes bs hbb hbl
                generalize runOn (bit0 d bs) ss = h at hB HCO
                have HBS : Hid (BsAt wr (.slice (some ⟨T, 0, none⟩) d d) bs) := BsAt.of_blk (HBT.out.to hbel) _ _ hbl.symm
                have HB4r : Hid (Below w4.heap.size w4 wr) := HBO.out.trans (hbel.mono HBO.out.size)
                have HBWr : Hid (Below w.heap.size w wr) := HB4.out.trans (HB4r.out.mono HB4.out.size)
                have htr : Table wr := table_below HT.out HBWr.out hw0
                have hsz : (mkS bs).size = d := by rw [mkS_size]; exact hbl
                have HSP : Hid (Calls Tryd.prog 22 #[.int .i64 d, .int .i64 s, .int .i64 0, .string (mkS bs)] wr fun e w' => ∃ b, wr.heap.size ≤ b ∧ e = .returned (.tuple #[.slice (some ⟨b, 0, none⟩) (d + s) (d + s), .int .i64 0]) ∧ Blk w' b 9 (strV (pieces d s (mkS bs))) ∧ Below wr.heap.size wr w') := wSpread_ok hS d s 0 _ hd0 hd10 hs6 (by omega) (by omega) wr htr
                have HPZ : Hid (∀ p, (h : p < (pieces d s (mkS bs)).length) → (pieces d s (mkS bs))[p].size = 1) := fun p h => by
                  rw [pieces_sizes d s _ p h, hsz, show d + d - 1 = (d - 1) + d * 1 by omega, Nat.add_mul_div_left _ _ (by omega), Nat.div_eq_of_lt (by omega)]
                have HPLN : Hid ((pieces d s (mkS bs)).length = d + s) := pieces_length _ _ _
                have HSB : Hid (Blk wr S 3 (intsV (rowF 1000 h))) := hB
                clear hB hbel htr hsz
                go_wp2_with (refine wpList_convert _ rfl 71 9 _ rfl _ (.string (mkS bs)) rfl (conv_str _ _ _ HBS.out) ?_)
                refine Calls.mono HSP.out ?_
                rintro e w5 ⟨lb, hlb, rfl, hlist, hb5⟩
                have HLI : Hid (Blk w5 lb 9 (strV (pieces d s (mkS bs)))) := hlist
                have HSB5 : Hid (Blk w5 S 3 (intsV (rowF 1000 h))) := HSB.out.to hb5
                have HBW5 : Hid (Below w.heap.size w w5) := HBWr.out.trans (hb5.mono HBWr.out.size)
                have hne1 : (((d + s : Nat) : Int) != (d : Int) + (s : Int)) = false := by simp
                have hne2 : ((d : Int) + (s : Int) != (d : Int) + (s : Int)) = false := by simp
                clear hlist hb5 HSB HSP HBWr HB4r HBS hlb
                go_wp2
                go_loopw [20] (fun i wr => ∃ q : Nat, 8 * d ≤ q ∧ q ≤ 8 * (d + s) ∧ i = .int .i64 q ∧ Drew w5 wr) (fun i _ => 8 * (d + s) - (intOf i).toNat)
                case atStart => exact ⟨8 * d, Nat.le_refl _, by omega, by go_num, ⟨0, rfl⟩⟩
                case round =>
                  obtain ⟨q, hq1, hq2, rfl, hdr⟩ := hrel
                  by_cases hlt : q < 8 * (d + s)
                  · have hp8 : q / 8 < (pieces d s (mkS bs)).length := by have := HPLN.out; omega
                    have c1 := (hdr.cell _).trans (HLI.out.cell_some (k := q / 8) (v := .string (pieces d s (mkS bs))[q / 8]) (by simp [strV, hp8]))
                    have c2 := (hdr.cell _).trans (rowI_at HSB5.out (show q < 1000 by omega))
                    have hx1 := HPZ.out (q / 8) hp8
                    have hco := HCO.out q hq1 hlt
                    have e9 : (pieces d s (mkS bs)).getD (q / 8) ByteArray.empty = (pieces d s (mkS bs))[q / 8] := by simp [List.getD_eq_getElem?_getD, hp8]
                    rw [e9] at hco
                    clear e9
                    generalize (pieces d s (mkS bs))[q / 8] = x at c1 hx1 hco
                    have hx0 : 0 < x.size := by omega
                    rw [nums_get x 0 hx0] at hco
                    have hy : (x[0]'hx0).toNat < 256 := (x[0]'hx0).toNat_lt
                    have EV : (((x[0]'hx0).toNat : Int) / 2 ^ (q % 8)).tmod 2 = ((h q : Nat) : Int) := by
                      rw [hco, Gf.cast_shr]
                      generalize (x[0]'hx0).toNat / 2 ^ (q % 8) = z
                      rw [Int.tmod_eq_emod_of_nonneg (by omega)]; omega
                    have HD : Hid (Drew w5 wr) := hdr
                    have q5 : (q : Int) < 8 * ((d : Int) + (s : Int)) := by omega
                    have q6 : ((x.size : Int) != 1) = false := by simp; omega
                    clear hdr hco
                    go_wp2
                    go_quiet (fail)
                    go_wp2
                    go_roundw
                    case rel => exact ⟨q + 1, by omega, by omega, by go_num, HD.out.more _⟩
                    case measure => simp [intOf]; omega
                  · have q5 : ¬ (q : Int) < 8 * ((d : Int) + (s : Int)) := by omega
                    go_wp2
                    go_ret
                    exact ⟨rfl, HBW5.out.trans (hdr.below.mono HBW5.out.size)⟩
end Go.Proofs.YtokmllopbfmadaaDoor.KeepW

namespace Go.Proofs.YtokmllopbfmadaaDoor.KeepW
open Go.RowKit Mem FieldWalks Tab ByTab Parts Ref Top Plans

theorem used_same (t : Nat) : ∀ l : List Stp, usedIn' t l = usedIn t l
  | [] => rfl
  | s :: l => by unfold usedIn' usedIn; rw [used_same t l]
theorem full_fill {d : Nat} {ss : List Stp} {k x : Nat} (h : full d (ss.take k) x) : fillB d ss k x = true := by
  unfold fillB
  rcases h with h | ⟨t, h1, h2⟩
  · simp [h]
  · have : ((ss.take k).any fun s => s.to == x) = true := List.any_eq_true.2 ⟨t, h1, by simp [h2]⟩
    simp [this]
theorem fine_right {d s : Nat} {ss : List Stp} (h : Fine d s [] ss) : ∀ k, (hk : k < ss.length) → RightAt d s ss k hk := fun k hk => by
  have f := h.at k hk
  rw [List.nil_append] at f
  exact ⟨f.lo, f.hi, f.src, by rw [← used_same]; exact f.use, full_fill f.ahead, f.first.imp id full_fill⟩
/-! ### how many pairs of bits there are -/
theorem bit_count (v : Nat) : ∀ n, ((List.range n).map fun c => if v.testBit c then 1 else 0).sum = bitsTo v n
  | 0 => rfl
  | n + 1 => by
    rw [List.range_succ, List.map_append, List.sum_append, bit_count v n, bitsTo]
    have : (if v.testBit n then 1 else 0) = v / 2 ^ n % 2 := by
      rw [Gf.testBit_div]
      have hlt : v / 2 ^ n % 2 < 2 := Nat.mod_lt _ (by decide)
      generalize v / 2 ^ n % 2 = t at hlt ⊢
      rcases (show t = 0 ∨ t = 1 by omega) with rfl | rfl <;> rfl
    simp [this]
def sumBits (f n : Nat) : Nat → Nat
  | 0 => 0
  | b + 1 => sumBits f n b + bitsTo (Gf.times f (2 ^ b)) n
theorem sum_zero : ∀ l : List Nat, (l.map fun _ => 0).sum = 0
  | [] => rfl
  | x :: l => by rw [List.map_cons, List.sum_cons, sum_zero l]
theorem sum_add (g h : Nat → Nat) : ∀ l : List Nat, (l.map fun c => g c + h c).sum = (l.map g).sum + (l.map h).sum
  | [] => rfl
  | x :: l => by simp only [List.map_cons, List.sum_cons]; rw [sum_add g h l]; omega
theorem len_sum (f o n : Nat) : ∀ b, total ((List.range n).map fun c => turnIn f c o b) = sumBits f n b
  | 0 => by
    unfold total sumBits
    rw [List.map_map]
    exact sum_zero _
  | b + 1 => by
    have ih := len_sum f o n b
    unfold total at ih ⊢
    rw [List.map_map] at ih ⊢
    have e : (List.length ∘ fun c => turnIn f c o (b + 1)) = fun c => (List.length ∘ fun c => turnIn f c o b) c + (if (Gf.times f (2 ^ b)).testBit c then 1 else 0) := by
      funext c
      show (turnIn f c o (b + 1)).length = (turnIn f c o b).length + _
      rw [turnIn, List.length_append]
      congr 1
      split <;> rfl
    rw [e, sum_add, ih, bit_count, sumBits]
theorem total_append (a b : List (List Nat)) : total (a ++ b) = total a + total b := by unfold total; rw [List.map_append, List.sum_append]
theorem range_eight (m : Nat) : List.range (8 * (m + 1)) = List.range (8 * m) ++ (List.range 8).map fun c => 8 * m + c := by
  rw [show 8 * (m + 1) = 8 * m + 8 by omega, List.range_add]
theorem rowBits_sum (f : Nat) (l : List Nat) : ∀ b, (∀ q, q < b → l.getD q 0 = Gf.times f (2 ^ q)) → rowBits l b = sumBits f 8 b
  | 0, _ => rfl
  | b + 1, h => by rw [rowBits, sumBits, rowBits_sum f l b (fun q hq => h q (by omega)), h b (by omega)]
theorem needs_turns (g : Nat → Nat) (o b : Nat) : ∀ m, total ((List.range (8 * m)).map fun k => turnIn (g (k / 8)) (k % 8) o b) = ((List.range m).map fun i => sumBits (g i) 8 b).sum
  | 0 => rfl
  | m + 1 => by
    have e2 : ((List.range 8).map fun c => 8 * m + c).map (fun k => turnIn (g (k / 8)) (k % 8) o b) = (List.range 8).map fun c => turnIn (g m) c o b := by
      rw [List.map_map]
      exact List.map_congr_left fun c hc => by
        have := List.mem_range.1 hc
        show turnIn (g ((8 * m + c) / 8)) ((8 * m + c) % 8) o b = _
        rw [show (8 * m + c) / 8 = m by omega, show (8 * m + c) % 8 = c by omega]
    have e3 : (List.range (m + 1)).map (fun i => sumBits (g i) 8 b) = (List.range m).map (fun i => sumBits (g i) 8 b) ++ [sumBits (g m) 8 b] := by
      rw [List.range_succ, List.map_append]; rfl
    rw [range_eight, List.map_append, e2, total_append, needs_turns g o b m, e3, List.sum_append, len_sum]
    simp
theorem piece_sum (d j : Nat) : ∀ s, pieceTurns d j s = ((List.range s).map fun i => sumBits (Gf.inv ((d + i) ^^^ j)) 8 8).sum
  | 0 => rfl
  | s + 1 => by
    rw [pieceTurns, piece_sum d j s, List.range_succ (n := s), List.map_append (l₁ := List.range s), List.sum_append]
    rw [rowBits_sum (Gf.inv ((d + s) ^^^ j)) _ 8 (fun q hq => by simp [List.getD_eq_getElem?_getD, hq])]
    simp
theorem fac_at (d s i j : Nat) (hi : i < s) (hj : j < d) : ((facs d s).getD i []).getD j 0 = Gf.inv ((d + i) ^^^ j) := by
  simp [facs, facRow, List.getD_eq_getElem?_getD, hi, hj]
theorem needs_piece (d s j : Nat) (hj : j < d) : total (needs (facs d s) j) = pieceTurns d j s := by
  rw [piece_sum, ← needs_turns (fun i => Gf.inv ((d + i) ^^^ j)) (8 * j) 8]
  unfold needs
  rw [show (facs d s).length = s by simp [facs]]
  congr 1
  exact List.map_congr_left fun k hk => by
    have := List.mem_range.1 hk
    rw [fac_at d s (k / 8) j (by omega) hj]
theorem needs_all (d s : Nat) : ∀ j, j ≤ d → needsTo (facs d s) j = turnsTo d s j
  | 0, _ => rfl
  | j + 1, hj => by rw [needsTo, turnsTo, needs_all d s j (by omega), needs_piece d s j (by omega)]
/-! ### what the plan comes to -/
theorem xs_bit (f : Nat → Nat) (hf : ∀ i, f i < 2) (l : List Nat) : xs f l < 2 := by
  induction l with
  | nil => simp [xs]
  | cons x l ih => rw [xs_cons]; exact Nat.xor_lt_two_pow (n := 1) (hf x) ih
theorem bit_of {x : Nat} (h : x < 2) : x = if x.testBit 0 then 1 else 0 := by
  rcases (show x = 0 ∨ x = 1 by omega) with rfl | rfl <;> rfl
theorem bit_div (x c : Nat) : x / 2 ^ c % 2 = if x.testBit c then 1 else 0 := by
  rw [Gf.testBit_div]
  have hlt : x / 2 ^ c % 2 < 2 := Nat.mod_lt _ (by decide)
  generalize x / 2 ^ c % 2 = t at hlt ⊢
  rcases (show t = 0 ∨ t = 1 by omega) with rfl | rfl <;> rfl
theorem one_piece (d s : Nat) (bs : List Nat) (hb : Gf.Bytes bs) (hl : bs.length = d) (hd : 1 ≤ d) (hds : d + s < 256) (i : Nat) (hi : i < s) : nums ((pieces d s (mkS bs)).getD (d + i) ByteArray.empty) = Gf.sumTo (facRow d i) (cuts bs d 1) 1 d := by
  have e1 : ((mkS bs).size + d - 1) / d = 1 := by
    rw [mkS_size, hl]
    rw [show d + d - 1 = (d - 1) + d * 1 by omega, Nat.add_mul_div_left _ _ (by omega), Nat.div_eq_of_lt (by omega)]
  have hn : nums (mkS bs) = bs := nums_mkS _ hb
  have hr : Gf.Bytes (facRow d i) := facRow_bytes d i (by omega)
  have key : (pieces d s (mkS bs))[d + i]? = some (mkS (Gf.sumTo (facRow d i) (cuts bs d 1) 1 d)) := by
    unfold pieces texts
    rw [e1, hn, List.getElem?_map, List.getElem?_append_right (by simp [cuts]), show d + i - (cuts bs d 1).length = i by simp [cuts]]
    simp only [sums, facs, List.getElem?_map, List.getElem?_range hi, Option.map_some]
    rw [show (cuts bs d 1).length = d by simp [cuts]]
  rw [List.getD_eq_getElem?_getD, key, Option.getD_some, nums_mkS _ (Gf.sumTo_bytes _ _ _ hr _)]
theorem plan_comes (d s : Nat) (he : Plans.Ends (facs d s) d) (hd : 1 ≤ d) (hds : d + s < 256) (bs : List Nat) (hb : Gf.Bytes bs) (hl : bs.length = d) (i : Nat) (h1 : 8 * d ≤ i) (h2 : i < 8 * (d + s)) :
    runOn (bit0 d bs) (planTo (facs d s) d d) i = (nums ((pieces d s (mkS bs)).getD (i / 8) ByteArray.empty)).getD 0 0 / 2 ^ (i % 8) % 2 := by
  obtain ⟨k, rfl⟩ : ∃ k, i = 8 * d + k := ⟨i - 8 * d, by omega⟩
  have hk : k < 8 * s := by omega
  have hfl : (facs d s).length = s := by simp [facs]
  have hr := (run_plan (bit0 d bs) (facs d s) d he (fun x hx => by unfold bit0; rw [if_neg (by omega)]) d (Nat.le_refl _)).2 k (by rw [hfl]; exact hk)
  have hrow : (facs d s).getD (k / 8) [] = facRow d (k / 8) := by
    simp [facs, List.getD_eq_getElem?_getD, show k / 8 < s by omega]
  rw [hr, hrow, show (8 * d + k) / 8 = d + k / 8 by omega, show (8 * d + k) % 8 = k % 8 by omega, one_piece d s bs hb hl hd hds (k / 8) (by omega)]
  have hcl : (cuts bs d 1).length = d := by simp [cuts]
  have hx := xs_to (bit0 d bs) (facRow d (k / 8)) (cuts bs d 1) 1 (k % 8) 0 0 (facRow_bytes d _ (by omega)) (fun j hj => by simp [cuts, cutAt]) (fun j hj => cuts_bytes _ _ _ _ hb _) (fun j hj b hb8 => ?_) d (by rw [hcl]; exact Nat.le_refl _)
  · rw [bit_of (xs_bit _ (bit0_lt d bs) _), hx, bit_div]
  · rw [hcl] at hj
    have e : ((cuts bs d 1).getD j []).getD 0 0 = bs.getD j 0 := by
      simp [cuts, cutAt, List.getD_eq_getElem?_getD, hj]
    rw [e]
    unfold bit0
    rw [if_pos (by omega), show (8 * j + b) / 8 = j by omega, show (8 * j + b) % 8 = b by omega, bit_div]
    cases (bs.getD j 0).testBit b <;> rfl
/-- ████ The program's plan is as P7 asks. ████ -/
theorem plan_yes : PlanYes (fun _ => True) := by
  intro d s w hd hd2 hs _ ht
  refine (plan_any d s w ht hd hd2 hs).mono ?_
  rintro e w' ⟨v, rfl, ho, hen, hb⟩
  have hfl : (facs d s).length = s := by simp [facs]
  refine ⟨v, planTo (facs d s) d d, rfl, StepsAt.of_owns ho, ⟨?_, ?_, ?_⟩, hb⟩
  · have := plan_fine hen (by omega) (by omega) d (Nat.le_refl _)
    rw [hfl] at this
    exact fine_right this
  · have := plan_few hen d (Nat.le_refl _)
    rw [needs_all d s d (Nat.le_refl _)] at this; exact this
  · intro bs hbs hbl i h1 h2
    exact plan_comes d s hen hd (by omega) bs hbs hbl i h1 h2
end Go.Proofs.YtokmllopbfmadaaDoor.KeepW

namespace Go.Proofs.YtokmllopbfmadaaDoor.KeepW
open Go.RowKit Mem FieldWalks Tab ByTab Parts Ref Top Plans

theorem facs11 : facs 1 1 = [[1]] := by decide
theorem needs11 : needs [[1]] 0 = [[0], [1], [2], [3], [4], [5], [6], [7]] := by decide
theorem cnt_ones {L : List (List Nat)} (h : ∀ l, l ∈ L → l.length ≤ 1) (x y : Nat) : cnt L x y = 0 := by
  unfold cnt
  split
  · rename_i hxy
    refine List.countP_eq_zero.2 fun l hl hb => ?_
    have hm := both_iff.1 hb
    have := h l hl
    match l, this, hm with
    | [], _, hm => cases hm.1
    | [a], _, hm =>
      have h1 : x = a := by simpa using hm.1
      have h2 : y = a := by simpa using hm.2
      omega
  · rfl
theorem end_ones {L : List (List Nat)} {h K : Nat} (hL : ∀ l, l ∈ L → l.length ≤ 1) (e : IsEnd L h K) : K = 0 := by
  by_cases h0 : 0 < K
  · have h1 := (pair_at e h0).1
    have h2 := (pair_at e h0).2
    obtain ⟨_, h3, _⟩ := h1.pair h2
    rcases h1.2 with ⟨h4, _⟩ | ⟨_, h5, _⟩
    · omega
    · have := cnt_ones hL (best (listsTo L h 0)).1.1 (best (listsTo L h 0)).1.2
      have h6 : cnt (listsTo L h 0) (best (listsTo L h 0)).1.1 (best (listsTo L h 0)).1.2 = 0 := this
      omega
  · omega
def one8 : List Stp := (List.range 8).map fun c => ⟨8 + c, c, true⟩
theorem plan11 (he : Plans.Ends (facs 1 1) 1) : planTo (facs 1 1) 1 1 = one8 := by
  rw [facs11] at he ⊢
  have h0 := he 0 (by omega)
  have hK := end_ones (L := needs [[1]] 0) (by rw [needs11]; decide) h0
  rw [planTo, planTo, List.nil_append, pieceSteps, hK, helpTo, List.nil_append, listsTo, needs11]
  rfl
theorem plan_none (d : Nat) (he : Plans.Ends (facs d 0) d) : planTo (facs d 0) d d = [] := by
  have h1 := plan_few he d (Nat.le_refl _)
  have h2 := needsTo_le (facs d 0) d
  have h3 : (facs d 0).length = 0 := rfl
  rw [h3, Nat.mul_zero, Nat.zero_mul] at h2
  exact List.eq_nil_of_length_eq_zero (by omega)
theorem plan_more {rows : List (List Nat)} {n : Nat} {t : Stp} : ∀ j, t ∈ planTo rows n 1 → 1 ≤ j → t ∈ planTo rows n j
  | 0, _, h => by omega
  | 1, h, _ => h
  | j + 2, h, _ => by rw [planTo]; exact List.mem_append_left _ (plan_more (j + 1) h (by omega))
theorem first_turns (d : Nat) (h1 : 1 ≤ d) (h2 : d ≤ 10) : ∃ c, c < 8 ∧ turnIn (Gf.inv (d ^^^ 0)) c 0 8 ≠ [] := by
  rcases (show d = 1 ∨ d = 2 ∨ d = 3 ∨ d = 4 ∨ d = 5 ∨ d = 6 ∨ d = 7 ∨ d = 8 ∨ d = 9 ∨ d = 10 by omega) with rfl | rfl | rfl | rfl | rfl | rfl | rfl | rfl | rfl | rfl <;> exact ⟨0, by decide, by decide +kernel⟩
theorem plan_some (d s : Nat) (h1 : 1 ≤ d) (h2 : d ≤ 10) (hs : 0 < s) : planTo (facs d s) d d ≠ [] := by
  obtain ⟨c, hc, ht⟩ := first_turns d h1 h2
  have hfl : (facs d s).length = s := by simp [facs]
  have hn : (needs (facs d s) 0).getD c [] = turnIn (Gf.inv (d ^^^ 0)) c 0 8 := by
    rw [needs_at _ _ _ (by rw [hfl]; omega), show c / 8 = 0 by omega, show c % 8 = c by omega, fac_at d s 0 0 hs (by omega)]
    rfl
  have hb : begunTo (facs d s) 1 c = true := by
    simp only [begunTo, Bool.false_or, hn]
    simpa using ht
  rcases begun_full (facs d s) d c (by rw [hfl]; omega) 1 hb with h | ⟨t, h3, _⟩
  · omega
  · intro e
    have := plan_more d h3 h1
    rw [e] at this; cases this
theorem plan_len (d s : Nat) (h1 : 1 ≤ d) (h2 : d ≤ 10) (hs : s ≤ 6) (he : Plans.Ends (facs d s) d) : (planTo (facs d s) d d).length ≤ 100000 ∧ ((planTo (facs d s) d d).length = 0 ↔ s = 0) := by
  have hfl : (facs d s).length = s := by simp [facs]
  have h3 := plan_few he d (Nat.le_refl _)
  have h4 := needsTo_le (facs d s) d
  rw [hfl] at h4
  have h5 : 64 * s * d ≤ 64 * 6 * 10 := Nat.mul_le_mul (Nat.mul_le_mul_left _ hs) h2
  refine ⟨by omega, fun h => ?_, fun h => ?_⟩
  · by_cases e : s = 0
    · exact e
    · exact absurd (List.eq_nil_of_length_eq_zero h) (plan_some d s h1 h2 (by omega))
  · subst h; rw [plan_none d he]; rfl
end Go.Proofs.YtokmllopbfmadaaDoor.KeepW
