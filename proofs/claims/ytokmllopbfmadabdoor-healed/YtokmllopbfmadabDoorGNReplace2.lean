import Derived.Test.YtokmllopbfmadabDoorGNReplace
import Derived.BigRegion
import Derived.Test.YtokmllopbfmadabDoorGNMost2
namespace Go.Proofs.YtokmllopbfmadabDoor.Plans
open Go.RowKit Mem

set_option maxRecDepth 100000 in
set_option maxHeartbeats 4000000 in
theorem replace_any (L : List (List Nat)) (B M base N m a b h : Nat) (w : World) (hst : NSt w B M base N L) (hm : m = L.length) (hm2 : m ≤ 1000) (hB : base ≤ B) (hM : base ≤ M) (hbs : base ≤ w.heap.size) (hab : a < b) (hh : h < 1000000)
    (hup : ∀ l, l ∈ L → l.Pairwise (· < ·)) (hlt : ∀ l, l ∈ L → ∀ x, x ∈ l → x < h) (hsh : ∀ l, l ∈ L → l.length ≤ 8) (hN : N ≤ 100000000) :
    Calls Tryd.prog 88 #[.agg (needsV B M m).toArray, .agg #[.int .i64 a, .int .i64 b], .int .i64 h] w fun e w' => e = .returned (.tuple #[]) ∧ NSt w' B M base (N + 128 * m) (putH L (a, b) h) ∧ Turned base w w' := by
  have HST : Hid (NSt w B M base N L) := hst
  have HUP : Hid (∀ l, l ∈ L → l.Pairwise (· < ·)) := hup
  have HLT : Hid (∀ l, l ∈ L → ∀ x, x ∈ l → x < h) := hlt
  have HSH : Hid (∀ l, l ∈ L → l.length ≤ 8) := hsh
  have HM : Hid (m = L.length) := hm
  have hBlt := hst.lists.lt
  have hMlt := hst.pairs.lt
  clear hst hup hlt hsh hm
  simp only [needsV]
  go_enter Tryd.func88, Tryd.ntmps88
  go_wp2
  go_loopw [12] (fun iv wr => ∃ i : Nat, i ≤ m ∧ iv = .int .i64 i ∧ NSt wr B M base (N + 128 * i) (putK L (a, b) h i) ∧ Blk wr w.heap.size 138 [.slice (some ⟨B, 0, none⟩) m m, .map (some M)] ∧ Blk wr (w.heap.size + 1) 149 [.int .i64 a, .int .i64 b] ∧ Turned base w wr) (fun iv _ => m - (intOf iv).toNat)
  case atStart =>
    refine ⟨0, Nat.zero_le _, rfl, ?_, (Blk.new w _ _).alloc _, Blk.new1 w _ _ _, ((Turned.refl base w).to ((Below.refl _ _).alloc (Nat.le_refl _) _) hbs).to ((Below.refl _ _).alloc (Nat.le_refl _) _) (by simp; omega)⟩
    rw [putK_zero]
    exact (HST.out.to ((Below.refl _ _).alloc (Nat.le_refl _) _)).to ((Below.refl _ _).alloc (Nat.le_refl _) _)
  case round =>
    obtain ⟨i, hi, rfl, hst, hbox, hpair, htu⟩ := hrel
    by_cases hilt : i < m
    · have hiL : i < L.length := by rw [← HM.out]; exact hilt
      have hiK : i < (putK L (a, b) h i).length := by rw [putK_length]; exact hiL
      obtain ⟨v, hv, hown⟩ := hst.lists.at hiK
      rw [putK_at L (a, b) h i hiL] at hown
      have hlm := at_mem hiL
      have hl8 := HSH.out _ hlm
      have hlu := HUP.out _ hlm
      have hlx := HLT.out _ hlm
      have HNX : Hid ((putK L (a, b) h i).set i (if both a b (L.getD i []) then rest2 a b (L.getD i []) ++ [h] else L.getD i []) = putK L (a, b) h (i + 1)) := putK_next L (a, b) h i hiL
      have HKA : Hid ((putK L (a, b) h i).getD i [] = L.getD i []) := putK_at L (a, b) h i hiL
      have HLU : Hid ((L.getD i []).Pairwise (· < ·)) := hlu
      have HLX : Hid (∀ x, x ∈ L.getD i [] → x < h) := hlx
      generalize L.getD i [] = l at hown hl8 HNX HKA HLU HLX
      have HIA : Hid (IntsAt wr v l) := IntsAt.of_owns hown
      have HOWN : Hid (wr.ownsRow base 3 1 v l.length (intsV l)) := hown
      have HS : Hid (NSt wr B M base (N + 128 * i) (putK L (a, b) h i)) := hst
      have HBOX : Hid (Blk wr w.heap.size 138 [.slice (some ⟨B, 0, none⟩) m m, .map (some M)]) := hbox
      have HPAIR : Hid (Blk wr (w.heap.size + 1) 149 [.int .i64 a, .int .i64 b]) := hpair
      have HTU : Hid (Turned base w wr) := htu
      have p0 := hpair.cell_some (k := 0) (v := .int .i64 a) rfl
      have p1 := hpair.cell_some (k := 1) (v := .int .i64 b) rfl
      have b0 := hbox.cell_some (k := 0) (v := .slice (some ⟨B, 0, none⟩) m m) rfl
      have b1 := hbox.cell_some (k := 1) (v := .map (some M)) rfl
      obtain ⟨sa, sc, rfl⟩ := owns_form hown
      have HC : Hid (∀ n : Nat, Calls Tryd.prog 57 #[.slice sa l.length sc, .int .i64 n] wr fun e w' => e = .returned (.bool (decide (n ∈ l))) ∧ w' = wr) := fun n => contains_nat l n _ wr HIA.out (by omega)
      clear hst hbox hpair htu hown hlm hlu hlx
      by_cases hal : a ∈ l
      · by_cases hbl : b ∈ l
        · have hlne : l ≠ [] := fun e => by rw [e] at hal; cases hal
          obtain ⟨g, cap, us, hsv, hgb, hg, huc, hlc, hcm, hus⟩ := own_inv HOWN.out hlne
          injection hsv with hs1 hs2 hs3
          subst hs1 hs3
          have HUS : Hid (∀ k, (h : k < l.length) → us[k]? = some (.int .i64 (l[k] : Nat))) := hus
          have HG : Hid (Blk wr g 3 us) := hg
          have hca := HC.out a
          have hcb := HC.out b
          clear hus hg hs2 hlne
          rw [decide_eq_true hal] at hca
          rw [decide_eq_true hbl] at hcb
          have HAL : Hid (a ∈ l) := hal
          have HBL : Hid (b ∈ l) := hbl
          clear hal hbl
          go_wp2_with (first | (go_at_call 57; refine hca.mono ?_; rintro e w' ⟨rfl, hw⟩; obtain rfl : wr = w' := hw.symm) | (go_at_call 57; refine hcb.mono ?_; rintro e w' ⟨rfl, hw⟩; obtain rfl : wr = w' := hw.symm) | fail)
          refine (count_any l (-1) _ M _ _ _ _ HIA.out HS.out.pairs (.inr rfl) (cntI_le _ (by rw [putK_length]; have := HM.out; omega)) (by omega) (fun x hx => by have := HLX.out x hx; omega) (by omega)).mono ?_
          rintro e w1 ⟨rfl, hp1, hbt1⟩
          have hgM := HS.out.pairs.ne HG.out
          have hg1 := hbt1.blk HG.out hgM
          have hpr1 := hbt1.blk HPAIR.out (HS.out.pairs.ne HPAIR.out)
          have HBX1 : Hid (Blk w1 w.heap.size 138 [.slice (some ⟨B, 0, none⟩) m m, .map (some M)]) := hbt1.blk HBOX.out (HS.out.pairs.ne HBOX.out)
          have HPR1 : Hid (Blk w1 (w.heap.size + 1) 149 [.int .i64 a, .int .i64 b]) := hpr1
          have HP1 : Hid (PM w1 M (N + 128 * i + l.length * l.length) (cntF (cntI (putK L (a, b) h i)) (-1) l l.length 0)) := hp1
          have HBT1 : Hid (But M wr w1) := hbt1
          obtain ⟨r, hr⟩ : ∃ r, r = rest2 a b l := ⟨_, rfl⟩
          have HDF : Hid (Calls Tryd.prog 93 #[.slice (some ⟨g, 0, none⟩) l.length sc, .func (.func 94) #[] #[.pointer (some ⟨w.heap.size + 1, 0, none⟩)]] w1 fun e w' =>
              e = .returned (.slice (some ⟨g, 0, none⟩) r.length sc) ∧ (∃ us', Blk w' g 3 us' ∧ us'.length = sc ∧ us'.take r.length = intsV r) ∧ But g w1 w') := by
            rw [hr]; exact deleteFunc_any l a b (w.heap.size + 1) g sc us w1 hg1 HUS.out huc hlc hpr1 (by omega) HAL.out
          have hr2 : r.length + 2 = l.length := by rw [hr]; exact rest2_length HLU.out (by omega) HAL.out HBL.out
          have HRR : Hid ((r ++ [h]).Pairwise (· < ·) ∧ (∀ x, x ∈ r ++ [h] → x < 1000000)) := by
            rw [hr]
            refine ⟨?_, fun x hx => ?_⟩
            · rw [List.pairwise_append]
              refine ⟨HLU.out.filter _, by simp, fun x hx y hy => ?_⟩
              simp at hy; rw [hy]; exact HLX.out x (rest2_mem.1 hx).1
            · rcases List.mem_append.1 hx with hx | hx
              · have := HLX.out x (rest2_mem.1 hx).1; omega
              · simp at hx; omega
          have HNX2 : Hid ((putK L (a, b) h i).set i (r ++ [h]) = putK L (a, b) h (i + 1)) := by
            have := HNX.out
            rw [if_pos (both_iff.2 ⟨HAL.out, HBL.out⟩), ← hr] at this
            exact this
          have HG1 : Hid (Blk w1 g 3 us) := hg1
          have HV : Hid (wr.cell? ⟨B, i, none⟩ = some (.slice (some ⟨g, 0, none⟩) l.length sc)) := hv
          clear hp1 hbt1 hg1 hpr1 hv p0 p1 b0 b1 hca hcb hr
          go_wp2_with fail
          refine HDF.out.mono ?_
          rintro e w2 ⟨rfl, ⟨us2, hg2, hu2, ht2⟩, hbt2⟩
          have hgB : B ≠ g := by
            obtain ⟨vs, _, h2, _⟩ := HS.out.lists
            exact h2.type_ne HG.out (by decide)
          have hMB : B ≠ M := by
            obtain ⟨vs, _, h2, _⟩ := HS.out.lists
            exact HS.out.pairs.ne h2
          have hbB2 : w2.heap[B]? = wr.heap[B]? := (hbt2.rest B hgB (Nat.lt_of_lt_of_le HS.out.lists.lt HBT1.out.size)).trans (HBT1.out.rest B hMB HS.out.lists.lt)
          have c2 : w2.cell? ⟨B, i, none⟩ = some (.slice (some ⟨g, 0, none⟩) l.length sc) := (World.cell?_of_block hbB2).trans HV.out
          have f2 : w2.frozen? ⟨B, i, none⟩ = false := by
            obtain ⟨vs, _, h2, _⟩ := HS.out.lists
            have h22 : Blk w2 B 32 vs := by unfold Blk; rw [hbB2]; exact h2
            exact h22.free i
          have hbx2 := hbt2.blk HBX1.out (HBX1.out.type_ne HG1.out (by decide))
          have b20 := hbx2.cell_some (k := 0) (v := .slice (some ⟨B, 0, none⟩) m m) rfl
          have hBlt2 : B < w2.heap.size := Nat.lt_of_lt_of_le (Nat.lt_of_lt_of_le HS.out.lists.lt HBT1.out.size) hbt2.size
          have HG2 : Hid (Blk w2 g 3 us2) := hg2
          have HT2 : Hid (us2.take r.length = intsV r) := ht2
          have HBT2 : Hid (But g w1 w2) := hbt2
          have HBB2 : Hid (w2.heap[B]? = wr.heap[B]?) := hbB2
          have HBX2 : Hid (Blk w2 w.heap.size 138 [.slice (some ⟨B, 0, none⟩) m m, .map (some M)]) := hbx2
          have q1 : (i : Int) < (m : Int) := by omega
          have hxg : w.heap.size ≠ g := HBX1.out.type_ne HG1.out (by decide)
          have hxlt2 := hbx2.lt
          clear hg2 ht2 hbt2 hbB2 hbx2 HDF
          go_wp2
          go_region_law (refine step_append_blk rfl _ _ 32 rfl 3 (.int .i64 0) 8 Tryd.underlying32 infoInt g r.length sc us2 (by simp [Act.eval]) (by exact HG2.out.alloc _) ⟨w2.heap.size, 0, none⟩ 1 (.int .i64 h) (by simp [Act.eval]) (by exact (Blk.new w2 _ _).cell_some rfl) rfl (by omega) hu2 ?_; intro w3 hg3 hbt3; have hB3 : w3.heap[B]? = w2.heap[B]? := (hbt3.rest B hgB (by simp; omega)).trans (by exact Below.heap_alloc _ _ _ hBlt2); have c3 := (World.cell?_of_block (a := ⟨B, i, none⟩) hB3).trans c2; have f3 := (World.frozen?_of_block (a := ⟨B, i, none⟩) hB3).trans f2; have b30 := (World.cell?_of_block (w' := w3) (w := w2) (a := ⟨w.heap.size, 0, none⟩) ((hbt3.rest _ hxg (by simp; omega)).trans (by exact Below.heap_alloc _ _ _ hxlt2))).trans b20)
          all_goals
            have hra := rep_after HS.out hiK HV.out HG.out hgb hB hM HBT1.out HP1.out HBT2.out hbt3 hg3 hu2 (by omega) hcm HT2.out
            obtain ⟨w4, hw4⟩ : ∃ w4, w4 = w3.setCell ⟨B, i, none⟩ (.slice (some ⟨g, 0, none⟩) (r.length + 1) sc) := ⟨_, rfl⟩
            rw [← hw4] at hra ⊢
            obtain ⟨hls4, hpm4, htu4, hia4, hc4⟩ := hra
            have hbx4 := htu4.blk HBOX.out (by decide) (by decide)
            have b40 := hbx4.cell_some (k := 0) (v := .slice (some ⟨B, 0, none⟩) m m) rfl
            have b41 := hbx4.cell_some (k := 1) (v := .map (some M)) rfl
            have HLS4 : Hid (LS w4 B base ((putK L (a, b) h i).set i (r ++ [h]))) := hls4
            have HPM4 : Hid (PM w4 M (N + 128 * i + l.length * l.length) (cntF (cntI (putK L (a, b) h i)) (-1) l l.length 0)) := hpm4
            have HTU4 : Hid (Turned base wr w4) := htu4
            have HIA4 : Hid (IntsAt w4 (.slice (some ⟨g, 0, none⟩) (r.length + 1) sc) (r ++ [h])) := hia4
            have hbs4 : base ≤ w4.heap.size := Nat.le_trans hM (Nat.le_of_lt hpm4.lt)
            clear hg3 hbt3 hB3 c3 f3 b30 hls4 hpm4 htu4 hia4 hbx4 hw4
            have hfb : ∀ x y, -1000000 ≤ cntF (cntI (putK L (a, b) h i)) (-1) l l.length 0 x y ∧ cntF (cntI (putK L (a, b) h i)) (-1) l l.length 0 x y ≤ 1000000 := by
              intro x y
              have h1 := cnt_le (putK L (a, b) h i) x y
              rw [putK_length, ← HM.out] at h1
              have h2 : one l x y ≤ 1 := by unfold one; split <;> omega
              unfold cntF cntI
              rw [occ_rising HLU.out]
              simp only [List.take_zero, List.count_nil, ite_self]
              omega
            have HCT : Hid (Calls Tryd.prog 91 #[.agg #[.slice (some ⟨B, 0, none⟩) m m, .map (some M)], .slice (some ⟨g, 0, none⟩) (r.length + 1) sc, .int .i64 1] w4.drew fun e w' => e = .returned (.tuple #[]) ∧ PM w' M (N + 128 * i + l.length * l.length + (r ++ [h]).length * (r ++ [h]).length) (cntF (cntF (cntI (putK L (a, b) h i)) (-1) l l.length 0) 1 (r ++ [h]) (r ++ [h]).length 0) ∧ But M w4.drew w') := by
              have hll : l.length * l.length ≤ 8 * 8 := Nat.mul_le_mul hl8 hl8
              exact count_any (r ++ [h]) 1 _ M _ _ _ _ (by exact HIA4.out) (by exact HPM4.out) (.inl rfl) hfb (by simp; omega) HRR.out.2 (by omega)
            have HEND : Hid (∀ w5, PM w5 M (N + 128 * i + l.length * l.length + (r ++ [h]).length * (r ++ [h]).length) (cntF (cntF (cntI (putK L (a, b) h i)) (-1) l l.length 0) 1 (r ++ [h]) (r ++ [h]).length 0) → But M w4.drew w5 → NSt w5 B M base (N + 128 * (i + 1)) (putK L (a, b) h (i + 1)) ∧ Turned base wr w5) := by
              intro w5 hp5 hbt5
              have hll : l.length * l.length ≤ 8 * 8 := Nat.mul_le_mul hl8 hl8
              have hrr : (r ++ [h]).length * (r ++ [h]).length ≤ 8 * 8 := Nat.mul_le_mul (by simp; omega) (by simp; omega)
              have h2 := (hp5.mono (m := N + 128 * (i + 1)) (by omega))
              have e := count_set2 (putK L (a, b) h i) i (r ++ [h]) hiK (by rw [HKA.out]; exact HLU.out) HRR.out.1
              rw [HKA.out, HNX2.out] at e
              have hls := HLS4.out
              rw [HNX2.out] at hls
              have h4 : LS w4.drew B base (putK L (a, b) h (i + 1)) := hls
              exact ⟨⟨h4.map (by exact HPM4.out) hbt5, h2.eq e⟩, (Turned.to HTU4.out ((Below.refl _ _).drew) hbs4).map (M := M) (by exact HPM4.out) hbt5 hM⟩
            clear hfb
            go_wp2
            go_region_with (go_at_call 91; refine HCT.out.mono ?_; rintro e w5 ⟨rfl, hp5, hbt5⟩)
            all_goals
              have HE5 : Hid (NSt w5 B M base (N + 128 * (i + 1)) (putK L (a, b) h (i + 1)) ∧ Turned base wr w5) := HEND.out w5 hp5 hbt5
              clear hp5 hbt5 HCT HEND
              go_wp2
              go_roundw
              case rel => exact ⟨i + 1, by omega, by go_num, HE5.out.1, HE5.out.2.blk HBOX.out (by decide) (by decide), HE5.out.2.blk HPAIR.out (by decide) (by decide), HTU.out.trans HE5.out.2⟩
              case measure => simp [intOf]; omega
        · have hca := HC.out a
          have hcb := HC.out b
          rw [decide_eq_true hal] at hca
          rw [decide_eq_false hbl] at hcb
          have HN3 : Hid (NSt wr B M base (N + 128 * (i + 1)) (putK L (a, b) h (i + 1))) := by
            have e := HNX.out
            rw [if_neg (by rw [both_iff]; exact fun h => hbl h.2), ← HKA.out, set_same] at e
            show NSt _ _ _ _ _ _
            rw [← e]
            exact ⟨HS.out.lists, HS.out.pairs.mono (by omega)⟩
          clear hal hbl
          go_wp2_with (first | (go_at_call 57; refine hca.mono ?_; rintro e w' ⟨rfl, hw⟩; obtain rfl : wr = w' := hw.symm) | (go_at_call 57; refine hcb.mono ?_; rintro e w' ⟨rfl, hw⟩; obtain rfl : wr = w' := hw.symm) | fail)
          go_roundw
          case rel => exact ⟨i + 1, by omega, by go_num, HN3.out, HBOX.out, HPAIR.out, HTU.out⟩
          case measure => simp [intOf]; omega
      · have hca := HC.out a
        rw [decide_eq_false hal] at hca
        have HN3 : Hid (NSt wr B M base (N + 128 * (i + 1)) (putK L (a, b) h (i + 1))) := by
          have e := HNX.out
          rw [if_neg (by rw [both_iff]; exact fun h => hal h.1), ← HKA.out, set_same] at e
          show NSt _ _ _ _ _ _
          rw [← e]
          exact ⟨HS.out.lists, HS.out.pairs.mono (by omega)⟩
        clear hal
        go_wp2_with (first | (go_at_call 57; refine hca.mono ?_; rintro e w' ⟨rfl, hw⟩; obtain rfl : wr = w' := hw.symm) | fail)
        go_roundw
        case rel => exact ⟨i + 1, by omega, by go_num, HN3.out, HBOX.out, HPAIR.out, HTU.out⟩
        case measure => simp [intOf]; omega
    · obtain rfl : i = m := by omega
      have HF : Hid (NSt wr B M base (N + 128 * i) (putH L (a, b) h)) := by
        show NSt _ _ _ _ _ _
        have e := putK_all L (a, b) h
        rw [← HM.out] at e
        rw [← e]; exact hst
      clear hst
      go_wp2
      go_end0
      exact ⟨rfl, HF.out, htu⟩
end Go.Proofs.YtokmllopbfmadabDoor.Plans

namespace Go.Proofs.YtokmllopbfmadabDoor.Plans
open Go.RowKit Mem

def updB (bg : Nat → Bool) (k : Nat) : Nat → Bool := fun q => if q = k then true else bg q
set_option maxRecDepth 100000 in
set_option maxHeartbeats 8000000 in
theorem addToSum_any (PB GB base m8 fs fh k x : Nat) (ss : List Stp) (bg : Nat → Bool) (sv : Value) (w : World) (hst : PSt w PB GB base m8 fs fh ss bg sv) (hPB : base ≤ PB) (hGB : base ≤ GB) (hk : k < m8) (hfs : fs ≤ 100000) (hm : m8 ≤ 100000) (hlen : ss.length ≤ 1000000) :
    Calls Tryd.prog 89 #[.pointer (some ⟨PB, 0, none⟩), .int .i64 k, .int .i64 x] w fun e w' => e = .returned (.tuple #[]) ∧ (∃ sv', PSt w' PB GB base m8 fs fh (ss ++ [⟨fs + k, x, !bg k⟩]) (updB bg k) sv') ∧ TurnedP base w w' := by
  have HST : Hid (PSt w PB GB base m8 fs fh ss bg sv) := hst
  obtain ⟨sa, sc, rfl⟩ := owns_form hst.own
  have p0 := hst.blk.cell_some (k := 0) (v := .slice sa ss.length sc) rfl
  have p1 := hst.blk.cell_some (k := 1) (v := .slice (some ⟨GB, 0, none⟩) m8 m8) rfl
  have p2 := hst.blk.cell_some (k := 2) (v := .int .i64 fs) rfl
  have f0 := hst.blk.free 0
  have g0 := hst.flags.cell_some (flagsV_at bg hk)
  have hplt := hst.blk.lt
  have hbs : base ≤ w.heap.size := by omega
  obtain ⟨q, hq⟩ : ∃ q, q = bg k := ⟨_, rfl⟩
  obtain ⟨S2, hS2⟩ : ∃ S2, S2 = ss ++ [(⟨fs + k, x, !bg k⟩ : Stp)] := ⟨_, rfl⟩
  have HNC : Hid (stepCells ss ++ [.int .i64 ((fs : Int) + (k : Int)), .int .i64 x, .bool (!q)] = stepCells S2 ∧ ss.length + 1 = S2.length) := by
    show _ ∧ _
    rw [hS2, stepCells_add, hq]
    exact ⟨rfl, by simp⟩
  have HS2 : Hid (S2 = ss ++ [(⟨fs + k, x, !bg k⟩ : Stp)]) := hS2
  rw [← hq] at g0
  clear hS2 hst hq
  have HNB : Hid (Blk (w.alloc (.cells #[.int .i64 ((fs : Int) + (k : Int)), .int .i64 x, .bool (!q)] 141)) w.heap.size 141 [.int .i64 ((fs : Int) + (k : Int)), .int .i64 x, .bool (!q)]) := Blk.new w _ _
  have i1 : (k : Int) < (m8 : Int) := by omega
  have hwr : IntKind.i64.wrap ((fs : Int) + (k : Int)) = (fs : Int) + (k : Int) := by rw [IntKind.wrap_i64]; omega
  have hGlt := HST.out.flags.lt
  have hGP : GB ≠ PB := HST.out.flags.type_ne HST.out.blk (by decide)
  go_enter Tryd.func89, Tryd.ntmps89
  go_wp2
  go_region_law (refine step_append_n rfl _ _ 117 rfl base 141 (.agg #[.int .i64 0, .int .i64 0, .bool false]) 3 24 Tryd.underlying117 infoStep rfl (by decide) (.slice sa ss.length sc) ss.length (stepCells ss) (by simp [Act.eval]) (by exact (HST.out.own.alloc _).drew) ⟨w.heap.size, 0, none⟩ 1 1 [.int .i64 ((fs : Int) + (k : Int)), .int .i64 x, .bool (!q)] (by simp [Act.eval]) rfl (fun j u hu => (congrArg _ (addr_add _ j)).trans (HNB.out.cell_some hu)) (by simp [Value.oneCell']) (by unfold maxLen; omega) (by omega) (by simp; omega) ?_; rw [HNC.out.1, HNC.out.2]; intro v' w3 hown' hg'; obtain ⟨va, vc, rfl⟩ := owns_form hown'; have hpk := plan_kept (w3 := w3) HST.out (by exact (((Below.refl _ _).alloc (Nat.le_refl _) _)).drew) hg'; have c3 := (World.cell?_of_block (a := ⟨PB, 0, none⟩) hpk).trans p0; have f3 := (World.frozen?_of_block (a := ⟨PB, 0, none⟩) hpk).trans f0)
  all_goals
    have hra := add_after (w3 := w3) HST.out hPB hbs (by exact (((Below.refl _ _).alloc (Nat.le_refl _) _)).drew) hg' hown'
    obtain ⟨w4, hw4⟩ : ∃ w4, w4 = w3.setCell ⟨PB, 0, none⟩ (.slice va S2.length vc) := ⟨_, rfl⟩
    rw [← hw4] at hra ⊢
    have p41 := hra.1.blk.cell_some (k := 1) (v := .slice (some ⟨GB, 0, none⟩) m8 m8) rfl
    have g4 := hra.1.flags.cell_some (flagsV_at bg hk)
    have h4 := hra.1.flags.free k
    have HRA : Hid (PSt w4 PB GB base m8 fs fh S2 bg (.slice va S2.length vc) ∧ TurnedP base w w4) := hra
    clear hra hown' hg' hpk c3 f3 hw4 p0 p1 p2 f0 g0
    go_wp2
    go_end0
    refine ⟨rfl, ?_, ?_⟩
    · rw [← HS2.out]
      refine ⟨_, HRA.out.1.blk.other (Ne.symm hGP) _, own_keep3 HRA.out.1.own (fun g us _ hg => Below.heap_setCell _ _ _ _ (hg.type_ne HRA.out.1.flags (by decide))), ?_⟩
      have := (HRA.out.1.flags.set k (.bool true))
      rw [flagsV_set] at this
      exact this
    · refine ⟨HRA.out.2.below.setCell hGB _, fun g hlt h1 h2 h3 => ?_⟩
      rw [Below.heap_setCell _ _ _ _ (fun e => h3 _ (by have e2 : g = GB := e; rw [e2]; exact HST.out.flags))]
      exact HRA.out.2.keep g hlt h1 h2 h3
end Go.Proofs.YtokmllopbfmadabDoor.Plans

namespace Go.Proofs.YtokmllopbfmadabDoor.Plans
open Go.RowKit Mem

/-- The lists of a piece: what is asked of them. -/
structure LFit (L : List (List Nat)) (o fh m8 : Nat) : Prop where
  ok : LOk L o fh 0
  lo : o + 8 ≤ fh
  len : L.length = m8
  short : ∀ l, l ∈ L → l.length ≤ 8
  few : total L ≤ 384
  m : m8 ≤ 48
  hi : fh ≤ 1000
set_option maxRecDepth 100000 in
set_option maxHeartbeats 4000000 in
theorem addPiece_any (PB GB base m8 fs fh B M base1 o : Nat) (ss : List Stp) (bg : Nat → Bool) (sv : Value) (L : List (List Nat)) (w : World) (hp : PSt w PB GB base m8 fs fh ss bg sv) (hn : NSt w B M base1 (64 * m8) L) (hL : LFit L o fh m8) (hPB : base ≤ PB) (hGB : base ≤ GB) (hb1 : base ≤ base1) (hB : base1 ≤ B) (hM : base1 ≤ M) (hbs : base1 ≤ w.heap.size) (hfs : fs ≤ 100000) (hlen : ss.length ≤ 100000) :
    Calls Tryd.prog 81 #[.pointer (some ⟨PB, 0, none⟩), .agg (needsV B M m8).toArray] w fun e w' => e = .returned (.tuple #[]) ∧ (∃ K sv', IsEnd L fh K ∧ PSt w' PB GB base m8 fs fh (ss ++ (helpTo L fh K ++ addTo' fs (listsTo L fh K) bg m8)) (fun q => bg q || !(L.getD q []).isEmpty) sv') ∧ Below base w w' := by
  have HP : Hid (PSt w PB GB base m8 fs fh ss bg sv) := hp
  have HN : Hid (NSt w B M base1 (64 * m8) L) := hn
  have HL : Hid (LFit L o fh m8) := hL
  have p3 := hp.blk.cell_some (k := 3) (v := .int .i64 fh) rfl
  have hplt := hp.blk.lt
  have hm48 := hL.m
  have hfh := hL.hi
  have hfew := hL.few
  clear hp hn hL
  simp only [needsV]
  go_enter Tryd.func81, Tryd.ntmps81
  go_wp2
  clear p3
  go_loopw [4] (fun hv wr => ∃ (k h : Nat) (sv' : Value), hv = .int .i64 h ∧ h = fh + k ∧ PSt wr PB GB base m8 fs fh (ss ++ helpTo L fh k) bg sv' ∧ NSt wr B M base1 (64 * m8 + 128 * m8 * k) (listsTo L fh k) ∧ Blk wr w.heap.size 138 [.slice (some ⟨B, 0, none⟩) m8 m8, .map (some M)] ∧ (∀ i, i < k → 3 ≤ (best (listsTo L fh i)).2 ∧ ∃ p t, IsBest (listsTo L fh i) p t) ∧ total (listsTo L fh k) + 3 * k ≤ total L ∧ Below base w wr) (fun hv _ => 385 + fh - (intOf hv).toNat)
  case atStart =>
    refine ⟨0, fh, sv, rfl, rfl, ?_, ?_, Blk.new w _ _, fun i hi => by omega, Nat.le_refl _, (Below.refl _ _).alloc (by omega) _⟩
    · rw [helpTo, List.append_nil]; exact HP.out.to ((Below.refl _ _).alloc (Nat.le_refl _) _)
    · rw [Nat.mul_zero, Nat.add_zero]; exact HN.out.to ((Below.refl _ _).alloc (Nat.le_refl _) _)
  case round =>
    obtain ⟨k, h, sv1, rfl, hhk, hp, hn, hbox, hbest, htot, hbel⟩ := hrel
    have HHK : Hid (h = fh + k) := hhk
    have hh2 : h ≤ 2000 := by omega
    have hk128 : k ≤ 128 := by omega
    have hok := listsTo_ok HL.out.ok HL.out.lo k
    have hlk : (listsTo L fh k).length = m8 := by rw [listsTo_length]; exact HL.out.len
    have hsk := lists_short fh HL.out.short k
    have HOK : Hid (LOk (listsTo L fh k) o fh k) := hok
    have HSK : Hid (∀ l, l ∈ listsTo L fh k → l.length ≤ 8) := hsk
    have HMN : Hid (Calls Tryd.prog 86 #[.agg #[.slice (some ⟨B, 0, none⟩) m8 m8, .map (some M)]] wr fun e w' => ∃ (p : Nat × Nat) (t : Nat), e = .returned (.tuple #[.agg #[.int .i64 p.1, .int .i64 p.2], .int .i64 t]) ∧ IsBest (listsTo L fh k) p t ∧ Below wr.heap.size wr w') :=
      mostNeeded_any (listsTo L fh k) B M _ m8 wr hn.pairs (fun l hl x hx => by have := hok.inn l hl x hx; have := HL.out.lo; omega) (by omega)
    have b0 := hbox.cell_some (k := 0) (v := .slice (some ⟨B, 0, none⟩) m8 m8) rfl
    have b1 := hbox.cell_some (k := 1) (v := .map (some M)) rfl
    have HP1 : Hid (PSt wr PB GB base m8 fs fh (ss ++ helpTo L fh k) bg sv1) := hp
    have HN1 : Hid (NSt wr B M base1 (64 * m8 + 128 * m8 * k) (listsTo L fh k)) := hn
    have HBOX : Hid (Blk wr w.heap.size 138 [.slice (some ⟨B, 0, none⟩) m8 m8, .map (some M)]) := hbox
    have HBEST : Hid (∀ i, i < k → 3 ≤ (best (listsTo L fh i)).2 ∧ ∃ p t, IsBest (listsTo L fh i) p t) := hbest
    have HTOT : Hid (total (listsTo L fh k) + 3 * k ≤ total L) := htot
    have HBEL : Hid (Below base w wr) := hbel
    have hbsr := hbel.size
    clear hp hn hbox hbest htot hbel hok hsk
    go_wp2_with fail
    refine HMN.out.mono ?_
    rintro e w1 ⟨⟨p1, p2⟩, t, rfl, hib, hw1⟩
    have HIB : Hid (IsBest (listsTo L fh k) (p1, p2) t) := hib
    have HBE : Hid (best (listsTo L fh k) = ((p1, p2), t)) := best_eq hib
    have hP1 := HP1.out.to hw1
    have hN1 := HN1.out.to hw1
    have hX1 := HBOX.out.to hw1
    have hB1 : Below base w w1 := HBEL.out.trans (hw1.mono (by omega))
    have hsz1 := hB1.size
    have HP2 : Hid (PSt (w1.alloc (.cells #[.int .i64 (p1 : Nat), .int .i64 (p2 : Nat)] 149)) PB GB base m8 fs fh (ss ++ helpTo L fh k) bg sv1) := hP1.to ((Below.refl _ _).alloc (Nat.le_refl _) _)
    have HN2 : Hid (NSt (w1.alloc (.cells #[.int .i64 (p1 : Nat), .int .i64 (p2 : Nat)] 149)) B M base1 (64 * m8 + 128 * m8 * k) (listsTo L fh k)) := hN1.to ((Below.refl _ _).alloc (Nat.le_refl _) _)
    have HX2 : Hid (Blk (w1.alloc (.cells #[.int .i64 (p1 : Nat), .int .i64 (p2 : Nat)] 149)) w.heap.size 138 [.slice (some ⟨B, 0, none⟩) m8 m8, .map (some M)]) := hX1.alloc _
    have HB2 : Hid (Below base w (w1.alloc (.cells #[.int .i64 (p1 : Nat), .int .i64 (p2 : Nat)] 149))) := hB1.alloc (by omega) _
    clear hib hP1 hN1 hX1 hB1 b0 b1 HMN
    clear hhk
    by_cases ht : t < 3
    · have HEN : Hid (IsEnd L fh k) := by
        refine ⟨by rw [HBE.out]; exact ht, fun i hi => (HBEST.out i hi).1, fun i hi => ?_⟩
        by_cases e : i = k
        · subst e; exact ⟨_, _, HIB.out⟩
        · exact (HBEST.out i (by omega)).2
      obtain ⟨S0, hS0⟩ : ∃ S0, S0 = ss ++ helpTo L fh k := ⟨_, rfl⟩
      obtain ⟨LK, hLK⟩ : ∃ LK, LK = listsTo L fh k := ⟨_, rfl⟩
      have HLK : Hid (LK = listsTo L fh k) := hLK
      have HS0 : Hid (S0 = ss ++ helpTo L fh k) := hS0
      have hS0l : S0.length ≤ 101000 := by rw [hS0, List.length_append, helpTo_length]; omega
      rw [← hS0] at HP2
      rw [← hLK] at HN2 HOK HSK hlk
      have b20 := HX2.out.cell_some (k := 0) (v := .slice (some ⟨B, 0, none⟩) m8 m8) rfl
      have HTL : Hid (∀ i, i ≤ m8 → (addTo' fs LK bg i).length ≤ 1000) := by
        intro i hi
        rw [addTo_length _ _ _ _ (by omega)]
        have h1 := total_le 8 (LK.take i) (fun l hl => HSK.out l (List.mem_of_mem_take hl))
        have h2 : (LK.take i).length ≤ 48 := by simp; omega
        have h3 : 8 * (LK.take i).length ≤ 8 * 48 := Nat.mul_le_mul_left _ h2
        omega
      have htd : decide ((t : Int) < 3) = true := decide_eq_true (by omega)
      clear hS0 hLK HP1 HN1 HBOX HBEST HBEL HTOT HX2
      go_wp2
      clear b20
      go_loopw [35] (fun iv wr => ∃ (i : Nat) (sv' : Value), i ≤ m8 ∧ iv = .int .i64 i ∧ PSt wr PB GB base m8 fs fh (S0 ++ addTo' fs LK bg i) (bgTo bg LK i) sv' ∧ NSt wr B M base1 (64 * m8 + 128 * m8 * k) LK ∧ Below base w wr) (fun iv _ => m8 - (intOf iv).toNat)
      case atStart =>
        refine ⟨0, sv1, Nat.zero_le _, rfl, ?_, HN2.out, HB2.out⟩
        rw [bgTo_zero, addTo', List.append_nil]; exact HP2.out
      case round =>
        clear HP2 HN2 HB2
        obtain ⟨i, sv3, hi, rfl, hp3, hn3, hb3⟩ := hrel
        by_cases hilt : i < m8
        · have hiL : i < LK.length := by omega
          obtain ⟨v, hv, hown⟩ := hn3.lists.at hiL
          have hl8 := HSK.out _ (at_mem hiL)
          have hlx : ∀ x, x ∈ LK.getD i [] → x < 1000000 := fun x hx => by have := HOK.out.inn _ (at_mem hiL) x hx; have := HL.out.lo; omega
          have HNX : Hid (addTo' fs LK bg (i + 1) = addTo' fs LK bg i ++ addB (fs + i) (LK.getD i []) (bg i)) := rfl
          have HBA : Hid (bgIn bg LK i (LK.getD i []).length = bgTo bg LK (i + 1)) := bgIn_all bg LK i
          have hti := HTL.out i hi
          generalize LK.getD i [] = l at hown hl8 hlx HNX HBA
          have HIA : Hid (IntsAt wr v l) := IntsAt.of_owns hown
          obtain ⟨sa, sc, rfl⟩ := owns_form hown
          have HP3 : Hid (PSt wr PB GB base m8 fs fh (S0 ++ addTo' fs LK bg i) (bgTo bg LK i) sv3) := hp3
          have HN3 : Hid (NSt wr B M base1 (64 * m8 + 128 * m8 * k) LK) := hn3
          have HB3 : Hid (Below base w wr) := hb3
          have HLX : Hid (∀ x, x ∈ l → x < 1000000) := hlx
          clear hp3 hn3 hb3 hown hlx
          go_wp2
          clear hv
          obtain ⟨wo, rfl⟩ : ∃ wo, wo = wr := ⟨_, rfl⟩
          go_loopw [42] (fun cv wq => ∃ (c : Nat) (sv' : Value), c ≤ l.length ∧ cv = .int .i64 c ∧ PSt wq PB GB base m8 fs fh (S0 ++ addTo' fs LK bg i ++ addB (fs + i) (l.take c) (bg i)) (bgIn bg LK i c) sv' ∧ NSt wq B M base1 (64 * m8 + 128 * m8 * k) LK ∧ IntsAt wq (.slice sa l.length sc) l ∧ Below base w wq) (fun cv _ => l.length - (intOf cv).toNat)
          case atStart =>
            refine ⟨0, sv3, Nat.zero_le _, rfl, ?_, HN3.out, HIA.out, HB3.out⟩
            rw [bgIn_zero, List.take_zero, addB, List.append_nil]; exact HP3.out
          case round =>
            clear HP3 HN3 HIA HB3
            obtain ⟨c, sv4, hc, rfl, hp4, hn4, hia4, hb4⟩ := hrel
            by_cases hclt : c < l.length
            · have HIA4 : Hid (IntsAt wr (.slice sa l.length sc) l) := hia4
              obtain ⟨ao5, cap5, he5, hcap5, hx5⟩ := hia4
              injection he5 with he51 he52 he53
              subst he51 he53
              obtain ⟨g, us, rfl, hg, hus⟩ : ∃ g us, sa = some ⟨g, 0, none⟩ ∧ Blk wr g 3 us ∧ ∀ k, (h : k < l.length) → us[k]? = some (.int .i64 (l[k] : Nat)) := by
                rcases hx5 with h | h
                · rw [h] at hclt; simp at hclt
                · exact h
              have hck := hg.cell_some (hus c hclt)
              have HSN : Hid (addB (fs + i) (l.take (c + 1)) (bg i) = addB (fs + i) (l.take c) (bg i) ++ [⟨fs + i, l[c], !bgIn bg LK i c i⟩]) := by
                show _ = _
                rw [take_next hclt, addB_snoc, bgIn_at bg LK i c l (by omega)]
              have HGI : Hid (Blk wr g 3 us) := hg
              have HUS : Hid (∀ k, (h : k < l.length) → us[k]? = some (.int .i64 (l[k] : Nat))) := hus
              generalize l[c] = x at hck HSN
              have HAD : Hid (Calls Tryd.prog 89 #[.pointer (some ⟨PB, 0, none⟩), .int .i64 i, .int .i64 x] wr fun e w' => e = .returned (.tuple #[]) ∧ (∃ sv', PSt w' PB GB base m8 fs fh ((S0 ++ addTo' fs LK bg i ++ addB (fs + i) (l.take c) (bg i)) ++ [⟨fs + i, x, !bgIn bg LK i c i⟩]) (updB (bgIn bg LK i c) i) sv') ∧ TurnedP base wr w') :=
                addToSum_any PB GB base m8 fs fh i x _ _ sv4 wr hp4 hPB hGB hilt hfs (by omega) (by rw [List.length_append, List.length_append, addB_length, List.length_take]; omega)
              have HN4 : Hid (NSt wr B M base1 (64 * m8 + 128 * m8 * k) LK) := hn4
              have HB4 : Hid (Below base w wr) := hb4
              clear hp4 hn4 hb4 hg hus hx5 he52
              go_wp2_with fail
              refine HAD.out.mono ?_
              rintro e w5 ⟨rfl, ⟨sv5, hp5⟩, ht5⟩
              have HP5 : Hid (PSt w5 PB GB base m8 fs fh (S0 ++ addTo' fs LK bg i ++ addB (fs + i) (l.take (c + 1)) (bg i)) (bgIn bg LK i (c + 1)) sv5) := by
                rw [List.append_assoc, ← HSN.out] at hp5
                exact hp5.flagsEq (fun q _ => bgIn_next bg LK i c q)
              have HN5 : Hid (NSt w5 B M base1 (64 * m8 + 128 * m8 * k) LK) := HN4.out.turnedP ht5
              have HI5 : Hid (IntsAt w5 (.slice (some ⟨g, 0, none⟩) l.length sc) l) := ⟨_, _, rfl, hcap5, .inr ⟨g, us, rfl, ht5.blk HGI.out (by decide) (by decide) (by decide), HUS.out⟩⟩
              have HB5 : Hid (Below base w w5) := HB4.out.trans ht5.below
              clear hp5 ht5 HAD
              go_wp2
              go_roundw
              case rel => exact ⟨c + 1, sv5, by omega, by go_num, HP5.out, HN5.out, HI5.out, HB5.out⟩
              case measure => simp [intOf]; omega
            · obtain rfl : c = l.length := by omega
              have HP6 : Hid (PSt wr PB GB base m8 fs fh (S0 ++ addTo' fs LK bg (i + 1)) (bgTo bg LK (i + 1)) sv4) := by
                rw [HBA.out, List.take_length, List.append_assoc, ← HNX.out] at hp4; exact hp4
              have HN6 : Hid (NSt wr B M base1 (64 * m8 + 128 * m8 * k) LK) := hn4
              have HB6 : Hid (Below base w wr) := hb4
              clear hp4 hn4 hia4 hb4
              go_wp2
              go_roundw
              case rel => exact ⟨i + 1, sv4, by omega, by go_num, HP6.out, HN6.out, HB6.out⟩
              case measure => simp [intOf]; omega
        · obtain rfl : i = m8 := by omega
          have HF : Hid (PSt wr PB GB base i fs fh (ss ++ (helpTo L fh k ++ addTo' fs (listsTo L fh k) bg i)) (fun q => bg q || !(L.getD q []).isEmpty) sv3) := by
            have := hp3.flagsEq (bg' := fun q => bg q || !(L.getD q []).isEmpty) (fun q hq => by
              have := bgTo_needs bg L fh k q (by rw [HL.out.len]; exact hq)
              rw [HLK.out, ← HL.out.len]; exact this)
            rw [HS0.out, HLK.out, List.append_assoc] at this
            exact this
          clear hp3 hn3
          go_wp2
          go_end0
          exact ⟨rfl, ⟨k, sv3, HEN.out, HF.out⟩, hb3⟩
    · have hpair := HIB.out.pair (by omega)
      have hh0 := HHK.out
      have HMK : Hid (Calls Tryd.prog 87 #[.pointer (some ⟨PB, 0, none⟩), .int .i64 h, .agg #[.int .i64 p1, .int .i64 p2]] (w1.alloc (.cells #[.int .i64 (p1 : Nat), .int .i64 (p2 : Nat)] 149)) fun e w' => e = .returned (.tuple #[]) ∧ (∃ sv', PSt w' PB GB base m8 fs fh ((ss ++ helpTo L fh k) ++ [⟨h, p1, true⟩, ⟨h, p2, false⟩]) bg sv') ∧ TurnedP base (w1.alloc (.cells #[.int .i64 (p1 : Nat), .int .i64 (p2 : Nat)] 149)) w') :=
        makeHelper_any PB GB base m8 fs fh p1 p2 h (ss ++ helpTo L fh k) bg sv1 _ HP2.out hPB (by rw [List.length_append, helpTo_length]; omega)
      have HSE : Hid ((ss ++ helpTo L fh k) ++ [(⟨h, p1, true⟩ : Stp), ⟨h, p2, false⟩] = ss ++ helpTo L fh (k + 1)) := by
        show _ = _
        rw [helpTo, HBE.out, List.append_assoc, hh0]
      have HLE : Hid (putH (listsTo L fh k) (p1, p2) h = listsTo L fh (k + 1)) := by
        show _ = _
        rw [listsTo, HBE.out, hh0]
      have HTO : Hid (total (listsTo L fh (k + 1)) + 3 * (k + 1) ≤ total L) := by
        have e := total_put hpair.1 h _ HOK.out.up
        rw [HLE.out, hpair.2.1] at e
        have := HTOT.out
        show _ ≤ _
        omega
      have HBB : Hid (∀ i, i < k + 1 → 3 ≤ (best (listsTo L fh i)).2 ∧ ∃ p t, IsBest (listsTo L fh i) p t) := by
        intro i hi
        by_cases e : i = k
        · subst e; rw [HBE.out]; exact ⟨by show 3 ≤ t; omega, _, _, HIB.out⟩
        · exact HBEST.out i (by omega)
      have HKP : Hid (Blk (w1.alloc (.cells #[.int .i64 (p1 : Nat), .int .i64 (p2 : Nat)] 149)) w1.heap.size 149 [.int .i64 p1, .int .i64 p2]) := Blk.new w1 _ _
      have hlt12 := hpair.1
      have HRE : Hid (∀ w2, TurnedP base (w1.alloc (.cells #[.int .i64 (p1 : Nat), .int .i64 (p2 : Nat)] 149)) w2 → Calls Tryd.prog 88 #[.agg #[.slice (some ⟨B, 0, none⟩) m8 m8, .map (some M)], .agg #[.int .i64 p1, .int .i64 p2], .int .i64 h] w2 fun e w' => e = .returned (.tuple #[]) ∧ NSt w' B M base1 (64 * m8 + 128 * m8 * k + 128 * m8) (putH (listsTo L fh k) (p1, p2) h) ∧ Turned base1 w2 w') := by
        intro w2 ht2
        have hb2 := ht2.below.size
        have hmk : 128 * m8 * k ≤ 128 * 48 * 128 := Nat.mul_le_mul (Nat.mul_le_mul_left _ hm48) hk128
        exact replace_any (listsTo L fh k) B M base1 _ m8 p1 p2 h w2 (HN2.out.turnedP ht2) hlk.symm (by omega) hB hM (by simp at hb2; omega) hlt12 (by omega) HOK.out.up (fun l hl x hx => by have := HOK.out.inn l hl x hx; have := HL.out.lo; omega) HSK.out (by omega)
      clear hpair hh0
      go_wp2_with fail
      refine HMK.out.mono ?_
      rintro e w2 ⟨rfl, ⟨sv2, hp2⟩, ht2⟩
      have hx2 := ht2.blk HX2.out (by decide) (by decide) (by decide)
      have hk2 := ht2.blk HKP.out (by decide) (by decide) (by decide)
      have b20 := hx2.cell_some (k := 0) (v := .slice (some ⟨B, 0, none⟩) m8 m8) rfl
      have b21 := hx2.cell_some (k := 1) (v := .map (some M)) rfl
      have k20 := hk2.cell_some (k := 0) (v := .int .i64 p1) rfl
      have k21 := hk2.cell_some (k := 1) (v := .int .i64 p2) rfl
      have HPS2 : Hid (PSt w2 PB GB base m8 fs fh ((ss ++ helpTo L fh k) ++ [⟨h, p1, true⟩, ⟨h, p2, false⟩]) bg sv2) := hp2
      have HXX : Hid (Blk w2 w.heap.size 138 [.slice (some ⟨B, 0, none⟩) m8 m8, .map (some M)]) := hx2
      have HBW2 : Hid (Below base w w2) := HB2.out.trans ht2.below
      have hre := HRE.out w2 ht2
      have HRR : Hid (Calls Tryd.prog 88 #[.agg #[.slice (some ⟨B, 0, none⟩) m8 m8, .map (some M)], .agg #[.int .i64 p1, .int .i64 p2], .int .i64 h] w2 fun e w' => e = .returned (.tuple #[]) ∧ NSt w' B M base1 (64 * m8 + 128 * m8 * k + 128 * m8) (putH (listsTo L fh k) (p1, p2) h) ∧ Turned base1 w2 w') := hre
      clear hp2 ht2 hx2 hk2 hre HRE HMK hlt12
      go_wp2_with fail
      refine HRR.out.mono ?_
      rintro e w3 ⟨rfl, hn3, ht3⟩
      have HPE : Hid (PSt w3 PB GB base m8 fs fh (ss ++ helpTo L fh (k + 1)) bg sv2) := by
        have := HPS2.out.turned ht3
        rw [HSE.out] at this; exact this
      have HNE : Hid (NSt w3 B M base1 (64 * m8 + 128 * m8 * (k + 1)) (listsTo L fh (k + 1))) := by
        rw [HLE.out, Nat.add_assoc, ← Nat.mul_succ] at hn3; exact hn3
      have HXE : Hid (Blk w3 w.heap.size 138 [.slice (some ⟨B, 0, none⟩) m8 m8, .map (some M)]) := ht3.blk HXX.out (by decide) (by decide)
      have HBE3 : Hid (Below base w w3) := HBW2.out.trans (ht3.below.mono hb1)
      have HHE : Hid (h + 1 = fh + (k + 1)) := by have := HHK.out; show _ = _; omega
      clear hn3 ht3 b20 b21 k20 k21 HRR
      go_wp2
      go_roundw
      case rel => exact ⟨k + 1, h + 1, sv2, by go_num, HHE.out, HPE.out, HNE.out, HXE.out, HBB.out, HTO.out, HBE3.out⟩
      case measure => have := HHK.out; simp [intOf]; omega
end Go.Proofs.YtokmllopbfmadabDoor.Plans
