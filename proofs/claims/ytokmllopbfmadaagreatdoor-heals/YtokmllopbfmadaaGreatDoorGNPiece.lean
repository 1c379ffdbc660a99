import Derived.Test.YtokmllopbfmadaaGreatDoorGNAdd
import Derived.Test.YtokmllopbfmadaaGreatDoorGPlanRun
import Derived.Test.YtokmllopbfmadaaGreatDoorGNNeeds
import Derived.BigRegion
namespace Go.Proofs.YtokmllopbfmadaaGreatDoor.Plans
open Go.RowKit Mem

theorem rest2_short {a b : Nat} {l : List Nat} (ha : a ∈ l) : (rest2 a b l).length < l.length := by
  unfold rest2
  refine Nat.lt_of_le_of_ne (List.length_filter_le ..) fun e => ?_
  have := (List.length_filter_eq_length_iff.1 e) a ha
  simp at this
theorem lists_short {L : List (List Nat)} (h : Nat) (hL : ∀ l, l ∈ L → l.length ≤ 8) : ∀ k l, l ∈ listsTo L h k → l.length ≤ 8
  | 0, l, hl => hL l hl
  | k + 1, l, hl => by
    rw [listsTo] at hl
    simp only [putH, List.mem_map] at hl
    obtain ⟨m, hm, rfl⟩ := hl
    have := lists_short h hL k m hm
    split
    · rename_i hb
      have := rest2_short (b := (best (listsTo L h k)).1.2) (both_iff.1 hb).1
      rw [List.length_append, List.length_singleton]; omega
    · exact this
theorem NSt.turnedP {w w' : World} {B M base b2 N : Nat} {L : List (List Nat)} (h : NSt w B M base N L) (ht : TurnedP b2 w w') : NSt w' B M base N L := by
  obtain ⟨vs, hvs, hB, _⟩ := id h.lists
  have kk : ∀ g t us, Blk w g t us → t = 3 ∨ t = 32 → w'.heap[g]? = w.heap[g]? := fun g t us hg e =>
    ht.keep g hg.lt (fun vs hv => hg.type_ne hv (by rcases e with rfl | rfl <;> decide) rfl) (fun vs hv => hg.type_ne hv (by rcases e with rfl | rfl <;> decide) rfl) (fun vs hv => hg.type_ne hv (by rcases e with rfl | rfl <;> decide) rfl)
  refine ⟨h.lists.keep (kk _ _ _ hB (.inr rfl)) (fun g us hg => kk g _ us hg (.inl rfl)), h.pairs.block (ht.keep M h.pairs.lt (fun us hu => h.pairs.ne hu rfl) (fun us hu => h.pairs.ne hu rfl) (fun us hu => h.pairs.ne hu rfl))⟩
theorem TurnedP.blk {b2 : Nat} {w w' : World} {g : Nat} {t : TypeId} {us : List Value} (ht : TurnedP b2 w w') (hg : Blk w g t us) (h1 : t ≠ 162) (h2 : t ≠ 98) (h3 : t ≠ 4) : Blk w' g t us := by
  unfold Blk
  rw [ht.keep g hg.lt (fun vs hv => hg.type_ne hv h1 rfl) (fun vs hv => hg.type_ne hv h2 rfl) (fun vs hv => hg.type_ne hv h3 rfl)]
  exact hg
/-- The bits that have had a step, behind i lists and c places of the next. -/
def bgTo (bg : Nat → Bool) (L : List (List Nat)) (i : Nat) : Nat → Bool := fun q => bg q || (decide (q < i) && !(L.getD q []).isEmpty)
def bgIn (bg : Nat → Bool) (L : List (List Nat)) (i c : Nat) : Nat → Bool := fun q => bgTo bg L i q || (q == i && decide (0 < c))
theorem bgIn_zero (bg : Nat → Bool) (L : List (List Nat)) (i : Nat) : bgIn bg L i 0 = bgTo bg L i := by funext q; simp [bgIn]
theorem bgTo_zero (bg : Nat → Bool) (L : List (List Nat)) : bgTo bg L 0 = bg := by funext q; simp [bgTo]
theorem bgIn_next (bg : Nat → Bool) (L : List (List Nat)) (i c q : Nat) : (if q = i then true else bgIn bg L i c q) = bgIn bg L i (c + 1) q := by
  by_cases h : q = i
  · subst h; simp [bgIn]
  · have : (q == i) = false := by simp [h]
    simp [bgIn, this, h]
theorem bgIn_all (bg : Nat → Bool) (L : List (List Nat)) (i : Nat) : bgIn bg L i (L.getD i []).length = bgTo bg L (i + 1) := by
  funext q
  unfold bgIn bgTo
  by_cases h : q = i
  · subst h
    have e1 : decide (q < q) = false := by simp
    have e2 : decide (q < q + 1) = true := by simp
    rw [e1, e2]
    cases hl : L.getD q [] with
    | nil => simp
    | cons x l => simp
  · have e1 : (q == i) = false := by simp [h]
    have e2 : decide (q < i + 1) = decide (q < i) := by
      by_cases h2 : q < i
      · rw [decide_eq_true h2, decide_eq_true (by omega)]
      · rw [decide_eq_false h2, decide_eq_false (by omega)]
    rw [e1, e2]; simp
theorem bgIn_at (bg : Nat → Bool) (L : List (List Nat)) (i c : Nat) (l : List Nat) (hc : c ≤ l.length) : (!bgIn bg L i c i) = !(bg i || !(l.take c).isEmpty) := by
  have e : (!(l.take c).isEmpty) = decide (0 < c) := by
    cases c with
    | zero => simp
    | succ c =>
      cases l with
      | nil => simp at hc
      | cons x l => simp
  rw [e]; simp [bgIn, bgTo]
theorem bgTo_needs (bg : Nat → Bool) (L : List (List Nat)) (h K : Nat) : ∀ q, q < L.length → bgTo bg (listsTo L h K) L.length q = (bg q || !(L.getD q []).isEmpty) := by
  intro q hq
  unfold bgTo
  rw [decide_eq_true hq, Bool.true_and]
  by_cases hl : L.getD q [] = []
  · rw [listsTo_none L h q hq hl K, hl]
  · have h2 := listsTo_some L h q hq hl K
    have e1 : (L.getD q []).isEmpty = false := by simpa using hl
    have e2 : ((listsTo L h K).getD q []).isEmpty = false := by simpa using h2
    rw [e1, e2]
theorem PSt.flagsEq {w : World} {PB GB base m8 fs fh : Nat} {ss : List Stp} {bg bg' : Nat → Bool} {sv : Value} (h : PSt w PB GB base m8 fs fh ss bg sv) (e : ∀ k, k < m8 → bg k = bg' k) : PSt w PB GB base m8 fs fh ss bg' sv := ⟨h.blk, h.own, h.flags.eq (flagsV_congr e)⟩
end Go.Proofs.YtokmllopbfmadaaGreatDoor.Plans

namespace Go.Proofs.YtokmllopbfmadaaGreatDoor.Plans
open Go.RowKit Mem

set_option maxRecDepth 100000 in
set_option maxHeartbeats 4000000 in
theorem replace_any (L : List (List Nat)) (B M base N m a b h : Nat) (w : World) (hst : NSt w B M base N L) (hm : m = L.length) (hm2 : m ≤ 1000) (hB : base ≤ B) (hM : base ≤ M) (hbs : base ≤ w.heap.size) (hab : a < b) (hh : h < 1000000)
    (hup : ∀ l, l ∈ L → l.Pairwise (· < ·)) (hlt : ∀ l, l ∈ L → ∀ x, x ∈ l → x < h) (hsh : ∀ l, l ∈ L → l.length ≤ 8) (hN : N ≤ 100000000) :
    Calls Tryz.prog 116 #[.agg (needsV B M m).toArray, .agg #[.int .i64 a, .int .i64 b], .int .i64 h] w fun e w' => e = .returned (.tuple #[]) ∧ NSt w' B M base (N + 128 * m) (putH L (a, b) h) ∧ Turned base w w' := by
  have HST : Hid (NSt w B M base N L) := hst
  have HUP : Hid (∀ l, l ∈ L → l.Pairwise (· < ·)) := hup
  have HLT : Hid (∀ l, l ∈ L → ∀ x, x ∈ l → x < h) := hlt
  have HSH : Hid (∀ l, l ∈ L → l.length ≤ 8) := hsh
  have HM : Hid (m = L.length) := hm
  have hBlt := hst.lists.lt
  have hMlt := hst.pairs.lt
  clear hst hup hlt hsh hm
  simp only [needsV]
  go_enter Tryz.func116, Tryz.ntmps116
  go_wp2
  go_loopw [12] (fun iv wr => ∃ i : Nat, i ≤ m ∧ iv = .int .i64 i ∧ NSt wr B M base (N + 128 * i) (putK L (a, b) h i) ∧ Blk wr w.heap.size 167 [.slice (some ⟨B, 0, none⟩) m m, .map (some M)] ∧ Blk wr (w.heap.size + 1) 176 [.int .i64 a, .int .i64 b] ∧ Turned base w wr) (fun iv _ => m - (intOf iv).toNat)
  case atStart =>
    refine ⟨0, Nat.zero_le _, rfl, ?_, (Blk.new w _ _).alloc _, Blk.new1 w _ _ _, ((Turned.refl base w).to ((Below.refl _ _).alloc (Nat.le_refl _) _) hbs).to ((Below.refl _ _).alloc (Nat.le_refl _) _) (by simp; omega)⟩
    rw [putK_zero]
    exact (HST.out.to ((Below.refl _ _).alloc (Nat.le_refl _) _)).to ((Below.refl _ _).alloc (Nat.le_refl _) _)
  case round =>
    obtain ⟨i, hi, rfl, hst, hbox, hpair, htu⟩ := hrel
    by_cases hilt : i < m
    · have hiL : i < L.length := by rw [← HM.out]; exact hilt
      have hiK : i < (putK L (a, b) h i).length := by rw [putK_length]; exact hiL
      obtain ⟨v, hv, hown⟩ := hst.lists.at hiK
      rw [putK_at L (a, b) h i hiL] at hown
      have hlm := at_mem hiL
      have hl8 := HSH.out _ hlm
      have hlu := HUP.out _ hlm
      have hlx := HLT.out _ hlm
      have HNX : Hid ((putK L (a, b) h i).set i (if both a b (L.getD i []) then rest2 a b (L.getD i []) ++ [h] else L.getD i []) = putK L (a, b) h (i + 1)) := putK_next L (a, b) h i hiL
      have HKA : Hid ((putK L (a, b) h i).getD i [] = L.getD i []) := putK_at L (a, b) h i hiL
      have HLU : Hid ((L.getD i []).Pairwise (· < ·)) := hlu
      have HLX : Hid (∀ x, x ∈ L.getD i [] → x < h) := hlx
      generalize L.getD i [] = l at hown hl8 HNX HKA HLU HLX
      have HIA : Hid (IntsAt wr v l) := IntsAt.of_owns hown
      have HOWN : Hid (wr.ownsRow base 3 1 v l.length (intsV l)) := hown
      have HS : Hid (NSt wr B M base (N + 128 * i) (putK L (a, b) h i)) := hst
      have HBOX : Hid (Blk wr w.heap.size 167 [.slice (some ⟨B, 0, none⟩) m m, .map (some M)]) := hbox
      have HPAIR : Hid (Blk wr (w.heap.size + 1) 176 [.int .i64 a, .int .i64 b]) := hpair
      have HTU : Hid (Turned base w wr) := htu
      have p0 := hpair.cell_some (k := 0) (v := .int .i64 a) rfl
      have p1 := hpair.cell_some (k := 1) (v := .int .i64 b) rfl
      have b0 := hbox.cell_some (k := 0) (v := .slice (some ⟨B, 0, none⟩) m m) rfl
      have b1 := hbox.cell_some (k := 1) (v := .map (some M)) rfl
      obtain ⟨sa, sc, rfl⟩ := owns_form hown
      have HC : Hid (∀ n : Nat, Calls Tryz.prog 79 #[.slice sa l.length sc, .int .i64 n] wr fun e w' => e = .returned (.bool (decide (n ∈ l))) ∧ w' = wr) := fun n => contains_nat l n _ wr HIA.out (by omega)
      clear hst hbox hpair htu hown hlm hlu hlx
      by_cases hal : a ∈ l
      · by_cases hbl : b ∈ l
        · have hlne : l ≠ [] := fun e => by rw [e] at hal; cases hal
          obtain ⟨g, cap, us, hsv, hgb, hg, huc, hlc, hcm, hus⟩ := own_inv HOWN.out hlne
          injection hsv with hs1 hs2 hs3
          subst hs1 hs3
          have HUS : Hid (∀ k, (h : k < l.length) → us[k]? = some (.int .i64 (l[k] : Nat))) := hus
          have HG : Hid (Blk wr g 3 us) := hg
          have hca := HC.out a
          have hcb := HC.out b
          clear hus hg hs2 hlne
          rw [decide_eq_true hal] at hca
          rw [decide_eq_true hbl] at hcb
          have HAL : Hid (a ∈ l) := hal
          have HBL : Hid (b ∈ l) := hbl
          clear hal hbl
          go_wp2_with (first | (go_at_call 79; refine hca.mono ?_; rintro e w' ⟨rfl, hw⟩; obtain rfl : wr = w' := hw.symm) | (go_at_call 79; refine hcb.mono ?_; rintro e w' ⟨rfl, hw⟩; obtain rfl : wr = w' := hw.symm) | fail)
          refine (count_any l (-1) _ M _ _ _ _ HIA.out HS.out.pairs (.inr rfl) (cntI_le _ (by rw [putK_length]; have := HM.out; omega)) (by omega) (fun x hx => by have := HLX.out x hx; omega) (by omega)).mono ?_
          rintro e w1 ⟨rfl, hp1, hbt1⟩
          have hgM := HS.out.pairs.ne HG.out
          have hg1 := hbt1.blk HG.out hgM
          have hpr1 := hbt1.blk HPAIR.out (HS.out.pairs.ne HPAIR.out)
          have HBX1 : Hid (Blk w1 w.heap.size 167 [.slice (some ⟨B, 0, none⟩) m m, .map (some M)]) := hbt1.blk HBOX.out (HS.out.pairs.ne HBOX.out)
          have HPR1 : Hid (Blk w1 (w.heap.size + 1) 176 [.int .i64 a, .int .i64 b]) := hpr1
          have HP1 : Hid (PM w1 M (N + 128 * i + l.length * l.length) (cntF (cntI (putK L (a, b) h i)) (-1) l l.length 0)) := hp1
          have HBT1 : Hid (But M wr w1) := hbt1
          obtain ⟨r, hr⟩ : ∃ r, r = rest2 a b l := ⟨_, rfl⟩
          have HDF : Hid (Calls Tryz.prog 121 #[.slice (some ⟨g, 0, none⟩) l.length sc, .func (.func 122) #[] #[.pointer (some ⟨w.heap.size + 1, 0, none⟩)]] w1 fun e w' =>
              e = .returned (.slice (some ⟨g, 0, none⟩) r.length sc) ∧ (∃ us', Blk w' g 3 us' ∧ us'.length = sc ∧ us'.take r.length = intsV r) ∧ But g w1 w') := by
            rw [hr]; exact deleteFunc_any l a b (w.heap.size + 1) g sc us w1 hg1 HUS.out huc hlc hpr1 (by omega) HAL.out
          have hr2 : r.length + 2 = l.length := by rw [hr]; exact rest2_length HLU.out (by omega) HAL.out HBL.out
          have HRR : Hid ((r ++ [h]).Pairwise (· < ·) ∧ (∀ x, x ∈ r ++ [h] → x < 1000000)) := by
            rw [hr]
            refine ⟨?_, fun x hx => ?_⟩
            · rw [List.pairwise_append]
              refine ⟨HLU.out.filter _, by simp, fun x hx y hy => ?_⟩
              simp at hy; rw [hy]; exact HLX.out x (rest2_mem.1 hx).1
            · rcases List.mem_append.1 hx with hx | hx
              · have := HLX.out x (rest2_mem.1 hx).1; omega
              · simp at hx; omega
          have HNX2 : Hid ((putK L (a, b) h i).set i (r ++ [h]) = putK L (a, b) h (i + 1)) := by
            have := HNX.out
            rw [if_pos (both_iff.2 ⟨HAL.out, HBL.out⟩), ← hr] at this
            exact this
          have HG1 : Hid (Blk w1 g 3 us) := hg1
          have HV : Hid (wr.cell? ⟨B, i, none⟩ = some (.slice (some ⟨g, 0, none⟩) l.length sc)) := hv
          clear hp1 hbt1 hg1 hpr1 hv p0 p1 b0 b1 hca hcb hr
          go_wp2_with fail
          refine HDF.out.mono ?_
          rintro e w2 ⟨rfl, ⟨us2, hg2, hu2, ht2⟩, hbt2⟩
          have hgB : B ≠ g := by
            obtain ⟨vs, _, h2, _⟩ := HS.out.lists
            exact h2.type_ne HG.out (by decide)
          have hMB : B ≠ M := by
            obtain ⟨vs, _, h2, _⟩ := HS.out.lists
            exact HS.out.pairs.ne h2
          have hbB2 : w2.heap[B]? = wr.heap[B]? := (hbt2.rest B hgB (Nat.lt_of_lt_of_le HS.out.lists.lt HBT1.out.size)).trans (HBT1.out.rest B hMB HS.out.lists.lt)
          have c2 : w2.cell? ⟨B, i, none⟩ = some (.slice (some ⟨g, 0, none⟩) l.length sc) := (World.cell?_of_block hbB2).trans HV.out
          have f2 : w2.frozen? ⟨B, i, none⟩ = false := by
            obtain ⟨vs, _, h2, _⟩ := HS.out.lists
            have h22 : Blk w2 B 32 vs := by unfold Blk; rw [hbB2]; exact h2
            exact h22.free i
          have hbx2 := hbt2.blk HBX1.out (HBX1.out.type_ne HG1.out (by decide))
          have b20 := hbx2.cell_some (k := 0) (v := .slice (some ⟨B, 0, none⟩) m m) rfl
          have hBlt2 : B < w2.heap.size := Nat.lt_of_lt_of_le (Nat.lt_of_lt_of_le HS.out.lists.lt HBT1.out.size) hbt2.size
          have HG2 : Hid (Blk w2 g 3 us2) := hg2
          have HT2 : Hid (us2.take r.length = intsV r) := ht2
          have HBT2 : Hid (But g w1 w2) := hbt2
          have HBB2 : Hid (w2.heap[B]? = wr.heap[B]?) := hbB2
          have HBX2 : Hid (Blk w2 w.heap.size 167 [.slice (some ⟨B, 0, none⟩) m m, .map (some M)]) := hbx2
          have q1 : (i : Int) < (m : Int) := by omega
          have hxg : w.heap.size ≠ g := HBX1.out.type_ne HG1.out (by decide)
          have hxlt2 := hbx2.lt
          clear hg2 ht2 hbt2 hbB2 hbx2 HDF
          go_wp2
          go_region_law (refine step_append_blk rfl _ _ 32 rfl 3 (.int .i64 0) 8 Tryz.underlying32 infoInt g r.length sc us2 (by simp [Act.eval]) (by exact HG2.out.alloc _) ⟨w2.heap.size, 0, none⟩ 1 (.int .i64 h) (by simp [Act.eval]) (by exact (Blk.new w2 _ _).cell_some rfl) rfl (by omega) hu2 ?_; intro w3 hg3 hbt3; have hB3 : w3.heap[B]? = w2.heap[B]? := (hbt3.rest B hgB (by simp; omega)).trans (by exact Below.heap_alloc _ _ _ hBlt2); have c3 := (World.cell?_of_block (a := ⟨B, i, none⟩) hB3).trans c2; have f3 := (World.frozen?_of_block (a := ⟨B, i, none⟩) hB3).trans f2; have b30 := (World.cell?_of_block (w' := w3) (w := w2) (a := ⟨w.heap.size, 0, none⟩) ((hbt3.rest _ hxg (by simp; omega)).trans (by exact Below.heap_alloc _ _ _ hxlt2))).trans b20)
          all_goals
            have hra := rep_after HS.out hiK HV.out HG.out hgb hB hM HBT1.out HP1.out HBT2.out hbt3 hg3 hu2 (by omega) hcm HT2.out
            obtain ⟨w4, hw4⟩ : ∃ w4, w4 = w3.setCell ⟨B, i, none⟩ (.slice (some ⟨g, 0, none⟩) (r.length + 1) sc) := ⟨_, rfl⟩
            rw [← hw4] at hra ⊢
            obtain ⟨hls4, hpm4, htu4, hia4, hc4⟩ := hra
            have hbx4 := htu4.blk HBOX.out (by decide) (by decide)
            have b40 := hbx4.cell_some (k := 0) (v := .slice (some ⟨B, 0, none⟩) m m) rfl
            have b41 := hbx4.cell_some (k := 1) (v := .map (some M)) rfl
            have HLS4 : Hid (LS w4 B base ((putK L (a, b) h i).set i (r ++ [h]))) := hls4
            have HPM4 : Hid (PM w4 M (N + 128 * i + l.length * l.length) (cntF (cntI (putK L (a, b) h i)) (-1) l l.length 0)) := hpm4
            have HTU4 : Hid (Turned base wr w4) := htu4
            have HIA4 : Hid (IntsAt w4 (.slice (some ⟨g, 0, none⟩) (r.length + 1) sc) (r ++ [h])) := hia4
            have hbs4 : base ≤ w4.heap.size := Nat.le_trans hM (Nat.le_of_lt hpm4.lt)
            clear hg3 hbt3 hB3 c3 f3 b30 hls4 hpm4 htu4 hia4 hbx4 hw4
            have hfb : ∀ x y, -1000000 ≤ cntF (cntI (putK L (a, b) h i)) (-1) l l.length 0 x y ∧ cntF (cntI (putK L (a, b) h i)) (-1) l l.length 0 x y ≤ 1000000 := by
              intro x y
              have h1 := cnt_le (putK L (a, b) h i) x y
              rw [putK_length, ← HM.out] at h1
              have h2 : one l x y ≤ 1 := by unfold one; split <;> omega
              unfold cntF cntI
              rw [occ_rising HLU.out]
              simp only [List.take_zero, List.count_nil, ite_self]
              omega
            have HCT : Hid (Calls Tryz.prog 119 #[.agg #[.slice (some ⟨B, 0, none⟩) m m, .map (some M)], .slice (some ⟨g, 0, none⟩) (r.length + 1) sc, .int .i64 1] w4.drew fun e w' => e = .returned (.tuple #[]) ∧ PM w' M (N + 128 * i + l.length * l.length + (r ++ [h]).length * (r ++ [h]).length) (cntF (cntF (cntI (putK L (a, b) h i)) (-1) l l.length 0) 1 (r ++ [h]) (r ++ [h]).length 0) ∧ But M w4.drew w') := by
              have hll : l.length * l.length ≤ 8 * 8 := Nat.mul_le_mul hl8 hl8
              exact count_any (r ++ [h]) 1 _ M _ _ _ _ (by exact HIA4.out) (by exact HPM4.out) (.inl rfl) hfb (by simp; omega) HRR.out.2 (by omega)
            have HEND : Hid (∀ w5, PM w5 M (N + 128 * i + l.length * l.length + (r ++ [h]).length * (r ++ [h]).length) (cntF (cntF (cntI (putK L (a, b) h i)) (-1) l l.length 0) 1 (r ++ [h]) (r ++ [h]).length 0) → But M w4.drew w5 → NSt w5 B M base (N + 128 * (i + 1)) (putK L (a, b) h (i + 1)) ∧ Turned base wr w5) := by
              intro w5 hp5 hbt5
              have hll : l.length * l.length ≤ 8 * 8 := Nat.mul_le_mul hl8 hl8
              have hrr : (r ++ [h]).length * (r ++ [h]).length ≤ 8 * 8 := Nat.mul_le_mul (by simp; omega) (by simp; omega)
              have h2 := (hp5.mono (m := N + 128 * (i + 1)) (by omega))
              have e := count_set2 (putK L (a, b) h i) i (r ++ [h]) hiK (by rw [HKA.out]; exact HLU.out) HRR.out.1
              rw [HKA.out, HNX2.out] at e
              have hls := HLS4.out
              rw [HNX2.out] at hls
              have h4 : LS w4.drew B base (putK L (a, b) h (i + 1)) := hls
              exact ⟨⟨h4.map (by exact HPM4.out) hbt5, h2.eq e⟩, (Turned.to HTU4.out ((Below.refl _ _).drew) hbs4).map (M := M) (by exact HPM4.out) hbt5 hM⟩
            clear hfb
            go_wp2
            go_region_with (go_at_call 119; refine HCT.out.mono ?_; rintro e w5 ⟨rfl, hp5, hbt5⟩)
            all_goals
              have HE5 : Hid (NSt w5 B M base (N + 128 * (i + 1)) (putK L (a, b) h (i + 1)) ∧ Turned base wr w5) := HEND.out w5 hp5 hbt5
              clear hp5 hbt5 HCT HEND
              go_wp2
              go_roundw
              case rel => exact ⟨i + 1, by omega, by go_num, HE5.out.1, HE5.out.2.blk HBOX.out (by decide) (by decide), HE5.out.2.blk HPAIR.out (by decide) (by decide), HTU.out.trans HE5.out.2⟩
              case measure => simp [intOf]; omega
        · have hca := HC.out a
          have hcb := HC.out b
          rw [decide_eq_true hal] at hca
          rw [decide_eq_false hbl] at hcb
          have HN3 : Hid (NSt wr B M base (N + 128 * (i + 1)) (putK L (a, b) h (i + 1))) := by
            have e := HNX.out
            rw [if_neg (by rw [both_iff]; exact fun h => hbl h.2), ← HKA.out, set_same] at e
            show NSt _ _ _ _ _ _
            rw [← e]
            exact ⟨HS.out.lists, HS.out.pairs.mono (by omega)⟩
          clear hal hbl
          go_wp2_with (first | (go_at_call 79; refine hca.mono ?_; rintro e w' ⟨rfl, hw⟩; obtain rfl : wr = w' := hw.symm) | (go_at_call 79; refine hcb.mono ?_; rintro e w' ⟨rfl, hw⟩; obtain rfl : wr = w' := hw.symm) | fail)
          go_roundw
          case rel => exact ⟨i + 1, by omega, by go_num, HN3.out, HBOX.out, HPAIR.out, HTU.out⟩
          case measure => simp [intOf]; omega
      · have hca := HC.out a
        rw [decide_eq_false hal] at hca
        have HN3 : Hid (NSt wr B M base (N + 128 * (i + 1)) (putK L (a, b) h (i + 1))) := by
          have e := HNX.out
          rw [if_neg (by rw [both_iff]; exact fun h => hal h.1), ← HKA.out, set_same] at e
          show NSt _ _ _ _ _ _
          rw [← e]
          exact ⟨HS.out.lists, HS.out.pairs.mono (by omega)⟩
        clear hal
        go_wp2_with (first | (go_at_call 79; refine hca.mono ?_; rintro e w' ⟨rfl, hw⟩; obtain rfl : wr = w' := hw.symm) | fail)
        go_roundw
        case rel => exact ⟨i + 1, by omega, by go_num, HN3.out, HBOX.out, HPAIR.out, HTU.out⟩
        case measure => simp [intOf]; omega
    · obtain rfl : i = m := by omega
      have HF : Hid (NSt wr B M base (N + 128 * i) (putH L (a, b) h)) := by
        show NSt _ _ _ _ _ _
        have e := putK_all L (a, b) h
        rw [← HM.out] at e
        rw [← e]; exact hst
      clear hst
      go_wp2
      go_end0
      exact ⟨rfl, HF.out, htu⟩
end Go.Proofs.YtokmllopbfmadaaGreatDoor.Plans

namespace Go.Proofs.YtokmllopbfmadaaGreatDoor.Plans
open Go.RowKit Mem

def updB (bg : Nat → Bool) (k : Nat) : Nat → Bool := fun q => if q = k then true else bg q
set_option maxRecDepth 100000 in
set_option maxHeartbeats 8000000 in
theorem addToSum_any (PB GB base m8 fs fh k x : Nat) (ss : List Stp) (bg : Nat → Bool) (sv : Value) (w : World) (hst : PSt w PB GB base m8 fs fh ss bg sv) (hPB : base ≤ PB) (hGB : base ≤ GB) (hk : k < m8) (hfs : fs ≤ 100000) (hm : m8 ≤ 100000) (hlen : ss.length ≤ 1000000) :
    Calls Tryz.prog 117 #[.pointer (some ⟨PB, 0, none⟩), .int .i64 k, .int .i64 x] w fun e w' => e = .returned (.tuple #[]) ∧ (∃ sv', PSt w' PB GB base m8 fs fh (ss ++ [⟨fs + k, x, !bg k⟩]) (updB bg k) sv') ∧ TurnedP base w w' := by
  have HST : Hid (PSt w PB GB base m8 fs fh ss bg sv) := hst
  obtain ⟨sa, sc, rfl⟩ := owns_form hst.own
  have p0 := hst.blk.cell_some (k := 0) (v := .slice sa ss.length sc) rfl
  have p1 := hst.blk.cell_some (k := 1) (v := .slice (some ⟨GB, 0, none⟩) m8 m8) rfl
  have p2 := hst.blk.cell_some (k := 2) (v := .int .i64 fs) rfl
  have f0 := hst.blk.free 0
  have g0 := hst.flags.cell_some (flagsV_at bg hk)
  have hplt := hst.blk.lt
  have hbs : base ≤ w.heap.size := by omega
  obtain ⟨q, hq⟩ : ∃ q, q = bg k := ⟨_, rfl⟩
  obtain ⟨S2, hS2⟩ : ∃ S2, S2 = ss ++ [(⟨fs + k, x, !bg k⟩ : Stp)] := ⟨_, rfl⟩
  have HNC : Hid (stepCells ss ++ [.int .i64 ((fs : Int) + (k : Int)), .int .i64 x, .bool (!q)] = stepCells S2 ∧ ss.length + 1 = S2.length) := by
    show _ ∧ _
    rw [hS2, stepCells_add, hq]
    exact ⟨rfl, by simp⟩
  have HS2 : Hid (S2 = ss ++ [(⟨fs + k, x, !bg k⟩ : Stp)]) := hS2
  rw [← hq] at g0
  clear hS2 hst hq
  have HNB : Hid (Blk (w.alloc (.cells #[.int .i64 ((fs : Int) + (k : Int)), .int .i64 x, .bool (!q)] 98)) w.heap.size 98 [.int .i64 ((fs : Int) + (k : Int)), .int .i64 x, .bool (!q)]) := Blk.new w _ _
  have i1 : (k : Int) < (m8 : Int) := by omega
  have hwr : IntKind.i64.wrap ((fs : Int) + (k : Int)) = (fs : Int) + (k : Int) := by rw [IntKind.wrap_i64]; omega
  have hGlt := HST.out.flags.lt
  have hGP : GB ≠ PB := HST.out.flags.type_ne HST.out.blk (by decide)
  go_enter Tryz.func117, Tryz.ntmps117
  go_wp2
  go_region_law (refine step_append_n rfl _ _ 59 rfl base 98 (.agg #[.int .i64 0, .int .i64 0, .bool false]) 3 24 Tryz.underlying59 infoStep rfl (by decide) (.slice sa ss.length sc) ss.length (stepCells ss) (by simp [Act.eval]) (by exact (HST.out.own.alloc _).drew) ⟨w.heap.size, 0, none⟩ 1 1 [.int .i64 ((fs : Int) + (k : Int)), .int .i64 x, .bool (!q)] (by simp [Act.eval]) rfl (fun j u hu => (congrArg _ (addr_add _ j)).trans (HNB.out.cell_some hu)) (by simp [Value.oneCell']) (by unfold maxLen; omega) (by omega) (by simp; omega) ?_; rw [HNC.out.1, HNC.out.2]; intro v' w3 hown' hg'; obtain ⟨va, vc, rfl⟩ := owns_form hown'; have hpk := plan_kept (w3 := w3) HST.out (by exact (((Below.refl _ _).alloc (Nat.le_refl _) _)).drew) hg'; have c3 := (World.cell?_of_block (a := ⟨PB, 0, none⟩) hpk).trans p0; have f3 := (World.frozen?_of_block (a := ⟨PB, 0, none⟩) hpk).trans f0)
  all_goals
    have hra := add_after (w3 := w3) HST.out hPB hbs (by exact (((Below.refl _ _).alloc (Nat.le_refl _) _)).drew) hg' hown'
    obtain ⟨w4, hw4⟩ : ∃ w4, w4 = w3.setCell ⟨PB, 0, none⟩ (.slice va S2.length vc) := ⟨_, rfl⟩
    rw [← hw4] at hra ⊢
    have p41 := hra.1.blk.cell_some (k := 1) (v := .slice (some ⟨GB, 0, none⟩) m8 m8) rfl
    have g4 := hra.1.flags.cell_some (flagsV_at bg hk)
    have h4 := hra.1.flags.free k
    have HRA : Hid (PSt w4 PB GB base m8 fs fh S2 bg (.slice va S2.length vc) ∧ TurnedP base w w4) := hra
    clear hra hown' hg' hpk c3 f3 hw4 p0 p1 p2 f0 g0
    go_wp2
    go_end0
    refine ⟨rfl, ?_, ?_⟩
    · rw [← HS2.out]
      refine ⟨_, HRA.out.1.blk.other (Ne.symm hGP) _, own_keep3 HRA.out.1.own (fun g us _ hg => Below.heap_setCell _ _ _ _ (hg.type_ne HRA.out.1.flags (by decide))), ?_⟩
      have := (HRA.out.1.flags.set k (.bool true))
      rw [flagsV_set] at this
      exact this
    · refine ⟨HRA.out.2.below.setCell hGB _, fun g hlt h1 h2 h3 => ?_⟩
      rw [Below.heap_setCell _ _ _ _ (fun e => h3 _ (by have e2 : g = GB := e; rw [e2]; exact HST.out.flags))]
      exact HRA.out.2.keep g hlt h1 h2 h3
end Go.Proofs.YtokmllopbfmadaaGreatDoor.Plans
