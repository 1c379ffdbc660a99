import Derived.OwnWalk
import Derived.Test.YtokmllopbfmadaaDoorGPRebuild
import Derived.Test.YtokmllopbfmadaaDoorGRefRestored
namespace Go.Proofs.YtokmllopbfmadaaDoor.Ref
open Go.RowKit Mem FieldWalks Tab ByTab Parts
open Gf (Bytes chosen left_ Fits sumTo)
open Plans (rowF)
open Top (SumsOk whole_any)

/-- The shape, as the program asks it. -/
theorem shape_iff (d s L : Nat) (pieces : List ByteArray) (lost : List Int) : ShapeOk d s L pieces lost ↔ NumsOk (d + s) lost ∧ (pieces.length = d + s ∧ SizesOk L pieces lost) :=
  ⟨fun h => ⟨h.nums, h.count, h.sizes⟩, fun h => ⟨h.2.1, h.1, h.2.2⟩⟩
theorem facs_fit (d s L : Nat) (ps : List (List Nat)) (hd : 1 ≤ d) (hd2 : d ≤ 10) (hs : s ≤ 6) (hL : L ≤ 400) (hl : ps.length = d) (hsz : ∀ j, (h : j < ps.length) → ps[j].length = L) (hb : ∀ j, (h : j < ps.length) → Bytes ps[j]) : Fit (facs d s) ps L := by
  refine ⟨by omega, by omega, by simp [facs]; omega, hsz, fun i hi => by simp [facs, facRow, hl], fun i hi => ?_, hb, by omega⟩
  simp only [facs, List.length_map, List.length_range] at hi
  simp only [facs, List.getElem_map, List.getElem_range]
  exact facRow_bytes _ _ (by omega)

set_option maxRecDepth 100000 in
set_option maxHeartbeats 2000000 in
theorem pGather_any (hS : SumsOk) (d s x n L : Nat) (pieces : List ByteArray) (lost : List Int) (ps : List (List Nat)) (pv lv : Value) (w : World) (ht : Table w) (hp : StrsAt w pv pieces) (hl : IsC w lv lost) (hd : 1 ≤ d) (hd2 : d ≤ 10) (hs : s ≤ 6) (hx : x ≤ 2) (hn : n ≤ 400) (hL : L = (n + d - 1) / d)
    (hyes : ShapeOk d s L pieces lost) (hfew : lost.length ≤ s) (hfit : Fits d L (chosen (left_ lost) d s) (fun p => nums (pieces.getD p ByteArray.empty)) ps) :
    Calls Tryd.prog 60 #[.int .i64 d, .int .i64 s, .int .i64 x, .int .i64 n, pv, lv] w fun e w' => ∃ b, w.heap.size ≤ b ∧ e = .returned (.tuple #[.string (mkS (ps.flatten.take n)), .slice (some ⟨b, 0, none⟩) (d + s) (d + s)]) ∧ Blk w' b 9 (strV (texts ps (sums (facs d s) ps L))) ∧ Below w.heap.size w w' := by
  have hLs : L ≤ 400 := by have := ceil_le n d hd; omega
  have hnL : n ≤ d * L := by rw [hL]; exact ceil_mul n d (by omega)
  have HRB := rebuild_any hS d s x L pieces lost ps pv lv w ht hp hl hd hd2 hs hx hLs hyes hfew hfit
  have HRBH : Hid _ := HRB
  have HT : Hid (Table w) := ht
  have HFI : Hid (Fit (facs d s) ps L) := facs_fit d s L ps hd hd2 hs hLs hfit.len hfit.size hfit.byte
  have HPL : Hid (ps.length = d) := hfit.len
  have HPB : Hid (∀ j, (h : j < ps.length) → Bytes ps[j]) := hfit.byte
  have hfl : ps.flatten.length = d * L := by rw [flatten_length ps L hfit.size, hfit.len]
  have hfl2 : d * L ≤ 4000 := Nat.mul_le_mul hd2 hLs
  obtain ⟨T, hT⟩ : ∃ T, T = ps.flatten.length := ⟨_, rfl⟩
  have hT1 : n ≤ T := by omega
  have hT2 : T ≤ 4000 := by omega
  have HTE : Hid (T = ps.flatten.length) := hT
  clear HRB ht hp hl hyes hfew hfit hfl hfl2 hT hL
  go_enter Tryd.func60, Tryd.ntmps60
  go_wp2_with fail
  refine Calls.mono HRBH.out ?_
  rintro e w1 ⟨cb, hcb, rfl, hrows, hb1⟩
  have hjn := join_any ps d cb w1 hd HPL.out hrows HPB.out (by omega) (by rw [← HTE.out]; omega)
  have HJN : Hid _ := hjn
  have HRO : Hid (RowsC w1 (.slice (some ⟨cb, 0, none⟩) d d) ps) := hrows
  have HB1 : Hid (Below w.heap.size w w1) := hb1
  clear hjn hrows hb1 HRBH
  go_wp2_with fail
  refine Calls.mono HJN.out ?_
  rintro e w2 ⟨v, rfl, hbs, hb2⟩
  have HB2 : Hid (Below w.heap.size w w2) := HB1.out.trans (hb2.mono HB1.out.size)
  have HRO2 : Hid (RowsC w2.drew (.slice (some ⟨cb, 0, none⟩) d d) ps) := (HRO.out.to hb2).to (Below.refl _ _).drew
  obtain ⟨ao, ex, rfl, hbc⟩ := hbs
  rw [← HTE.out]
  have HBT : Hid (BsAt w2.drew (.slice ao n (T + ex)) (ps.flatten.take n)) := by
    have hlt : (ps.flatten.take n).length = n := by rw [List.length_take, ← HTE.out]; omega
    refine ⟨ao, T + ex, by rw [hlt], ?_⟩
    rcases hbc with h | ⟨b, off, h1, h2, h3⟩
    · exact .inl (by rw [h]; simp)
    · exact .inr ⟨b, off, h1, h2, fun k hk => by rw [List.getElem_take]; exact h3 k (by rw [List.length_take] at hk; omega)⟩
  have hcv2 : (convert 71 9 (.slice ao n (T + ex))).run Tryd.prog w2.drew = .ok (.string (mkS (ps.flatten.take n))) w2.drew := conv_str _ _ _ HBT.out
  have HTW : Hid (Table w2.drew) := table_to HT.out HB2.out.drew
  have hnT : (n : Int) ≤ (T : Int) := by omega
  clear hbc hb2 HJN
  go_wp2_with fail
  go_region_with (go_at_call 81; refine (whole_any hS d s x ps L _ HPL.out hd2 hs hx HFI.out _ (by exact HTW.out) (by exact HRO2.out)).mono ?_; rintro e w3 ⟨b, hb, rfl, hblk, hb3⟩; have hcv3 := conv_str w3 _ _ (HBT.out.to hb3))
  all_goals
    go_wp2
    go_ret2
    exact ⟨b, Nat.le_trans HB2.out.size hb, rfl, hblk, HB2.out.drew.trans (hb3.mono HB2.out.size)⟩

section
variable (pv lv : Value) (w : World)
set_option maxRecDepth 100000
theorem gFault_count (d s x n : Int) (h : okCounts d s = false) :
    Calls Tryd.prog 59 #[.int .i64 d, .int .i64 s, .int .i64 x, .int .i64 n, pv, lv] w fun e w' => e = .returned (.int .i64 3) ∧ w' = w := by
  go_enter Tryd.func59, Tryd.ntmps59
  go_wp2_with fail
  refine (areCounts_any _ _ _).mono ?_
  rintro e w' ⟨rfl, rfl⟩
  go_wp2
  go_ret
  exact ⟨rfl, rfl⟩
theorem gFault_way (d s x n : Int) (h1 : okCounts d s = true) (h : okWay x = false) :
    Calls Tryd.prog 59 #[.int .i64 d, .int .i64 s, .int .i64 x, .int .i64 n, pv, lv] w fun e w' => e = .returned (.int .i64 4) ∧ w' = w := by
  go_enter Tryd.func59, Tryd.ntmps59
  go_wp2_with fail
  refine (areCounts_any _ _ _).mono ?_
  rintro e w' ⟨rfl, rfl⟩
  go_wp2_with fail
  refine (isWay_any _ _).mono ?_
  rintro e w' ⟨rfl, rfl⟩
  go_wp2
  go_ret
  exact ⟨rfl, rfl⟩
theorem gFault_long (d s x n : Int) (h1 : okCounts d s = true) (h2 : okWay x = true) (h : ¬ (0 ≤ n ∧ n ≤ 400)) :
    Calls Tryd.prog 59 #[.int .i64 d, .int .i64 s, .int .i64 x, .int .i64 n, pv, lv] w fun e w' => e = .returned (.int .i64 5) ∧ w' = w := by
  have hz := okSize_no n h
  clear h
  go_enter Tryd.func59, Tryd.ntmps59
  go_wp2_with fail
  refine (areCounts_any _ _ _).mono ?_
  rintro e w' ⟨rfl, rfl⟩
  go_wp2_with fail
  refine (isWay_any _ _).mono ?_
  rintro e w' ⟨rfl, rfl⟩
  go_wp2_with fail
  refine (isSize_any _ _).mono ?_
  rintro e w' ⟨rfl, rfl⟩
  go_wp2
  go_ret
  exact ⟨rfl, rfl⟩
theorem gFault_rest (d s x n : Nat) (pieces : List ByteArray) (lost : List Int) (hp : StrsAt w pv pieces) (hl : IsC w lv lost) (hll : lost.length < 2 ^ 62) (hpl : pieces.length < 2 ^ 62) (hd : 1 ≤ d) (hd2 : d ≤ 10) (hs : s ≤ 6) (hx : x ≤ 2) (hn : n ≤ 400) (hsz : ∀ p, (h : p < pieces.length) → pieces[p].size < 2 ^ 62) (q : Bool) (hq : q = true ↔ ShapeOk d s ((n + d - 1) / d) pieces lost) :
    Calls Tryd.prog 59 #[.int .i64 d, .int .i64 s, .int .i64 x, .int .i64 n, pv, lv] w fun e w' => e = .returned (.int .i64 (if q = true then (if s < lost.length then 7 else 0) else 6)) ∧ w' = w := by
  have hok : okCounts d s = true := okCounts_yes _ _ (by omega)
  have how : okWay x = true := okWay_yes _ (by omega)
  have hz : okSize n = true := okSize_yes _ (by omega)
  have hG := goTogether_any d s n _ pieces lost pv lv w hp hl hll hpl hd hd2 hs hn rfl hsz
  have hA := areNumbers_any (d + s) (by omega) lost lv w hl hll
  rw [Int.natCast_add] at hA
  have HG : Hid _ := hG
  have HA : Hid _ := hA
  have HQ : Hid (q = true ↔ NumsOk (d + s) lost ∧ (pieces.length = d + s ∧ SizesOk ((n + d - 1) / d) pieces lost)) := hq.trans (shape_iff _ _ _ _ _)
  obtain ⟨lao, lex, rfl, _⟩ := hl
  clear hG hA hq hp hsz hpl
  go_enter Tryd.func59, Tryd.ntmps59
  go_wp2_with fail
  refine (areCounts_any _ _ _).mono ?_
  rintro e w' ⟨rfl, rfl⟩
  go_wp2_with fail
  refine (isWay_any _ _).mono ?_
  rintro e w' ⟨rfl, rfl⟩
  go_wp2_with fail
  refine (isSize_any _ _).mono ?_
  rintro e w' ⟨rfl, rfl⟩
  go_wp2_with fail
  refine Calls.mono HA.out ?_
  rintro e w' ⟨⟨b1, rfl, hb1⟩, rfl⟩
  have HB1 : Hid (b1 = true ↔ NumsOk (d + s) lost) := hb1
  clear hb1
  cases b1 with
  | false =>
    have hqf : q = false := by
      cases q with
      | false => rfl
      | true => exact absurd (HB1.out.2 (HQ.out.1 rfl).1) (by decide)
    subst hqf
    go_wp2
    go_ret
    exact ⟨rfl, rfl⟩
  | true =>
    go_wp2_with fail
    refine Calls.mono HG.out ?_
    rintro e w' ⟨⟨b2, rfl, hb2⟩, rfl⟩
    have HB2 : Hid (b2 = true ↔ pieces.length = d + s ∧ SizesOk ((n + d - 1) / d) pieces lost) := hb2
    clear hb2
    cases b2 with
    | false =>
      have hqf : q = false := by
        cases q with
        | false => rfl
        | true => exact absurd (HB2.out.2 (HQ.out.1 rfl).2) (by decide)
      subst hqf
      go_wp2
      go_ret
      exact ⟨rfl, rfl⟩
    | true =>
      have hqt : q = true := HQ.out.2 ⟨HB1.out.1 (by trivial), HB2.out.1 (by trivial)⟩
      subst hqt
      by_cases hm : s < lost.length
      · have e1 : decide ((s : Int) < (lost.length : Int)) = true := decide_eq_true (by omega)
        go_wp2
        go_ret
        exact ⟨by simp, rfl⟩
      · have e1 : decide ((s : Int) < (lost.length : Int)) = false := decide_eq_false (by omega)
        go_wp2
        go_ret
        exact ⟨by simp, rfl⟩
theorem wGather_no (k : Nat) (hk : 1 ≤ k) (_hk2 : k ≤ 100) (d s x n : Int) (hF : Calls Tryd.prog 59 #[.int .i64 d, .int .i64 s, .int .i64 x, .int .i64 n, pv, lv] w fun e w' => e = .returned (.int .i64 k) ∧ w' = w) :
    Calls Tryd.prog 27 #[.int .i64 d, .int .i64 s, .int .i64 x, .int .i64 n, pv, lv] w fun e w' => GNo k e ∧ w' = w := by
  have hk0 : ((k : Int) != 0) = true := by simp; omega
  have hk1 : ¬ k = 0 := by omega
  go_enter Tryd.func27, Tryd.ntmps27
  go_wp2_with fail
  refine Calls.mono hF ?_
  rintro e w' ⟨rfl, rfl⟩
  go_wp2
  go_ret3
  exact ⟨rfl, rfl⟩
theorem wGather_ok (hS : SumsOk) (d s x n L : Nat) (pieces : List ByteArray) (lost : List Int) (ps : List (List Nat)) (ht : Table w) (hp : StrsAt w pv pieces) (hl : IsC w lv lost) (hd : 1 ≤ d) (hd2 : d ≤ 10) (hs : s ≤ 6) (hx : x ≤ 2) (hn : n ≤ 400) (hL : L = (n + d - 1) / d) (hsz : ∀ p, (h : p < pieces.length) → pieces[p].size < 2 ^ 62)
    (hyes : ShapeOk d s L pieces lost) (hfew : lost.length ≤ s) (hfit : Fits d L (chosen (left_ lost) d s) (fun p => nums (pieces.getD p ByteArray.empty)) ps) :
    Calls Tryd.prog 27 #[.int .i64 d, .int .i64 s, .int .i64 x, .int .i64 n, pv, lv] w fun e w' => ∃ b, w.heap.size ≤ b ∧ e = .returned (.tuple #[.string (mkS (ps.flatten.take n)), .slice (some ⟨b, 0, none⟩) (d + s) (d + s), .int .i64 0]) ∧ Blk w' b 9 (strV (texts ps (sums (facs d s) ps L))) ∧ Below w.heap.size w w' := by
  have hF := gFault_rest pv lv w d s x n pieces lost hp hl (by omega) (by rw [hyes.count]; omega) hd hd2 hs hx hn hsz true ⟨fun _ => by rw [← hL]; exact hyes, fun _ => rfl⟩
  rw [if_pos rfl, if_neg (by omega)] at hF
  have HPH : Hid _ := pGather_any hS d s x n L pieces lost ps pv lv w ht hp hl hd hd2 hs hx hn hL hyes hfew hfit
  have HFH : Hid _ := hF
  clear hF hyes hsz hp hl hfit
  go_enter Tryd.func27, Tryd.ntmps27
  go_wp2_with fail
  refine Calls.mono HFH.out ?_
  rintro e w' ⟨rfl, rfl⟩
  go_wp2_with fail
  refine Calls.mono HPH.out ?_
  rintro e w1 ⟨b, hb, rfl, hblk, hb1⟩
  have HBLK : Hid (Blk w1 b 9 (strV (texts ps (sums (facs d s) ps L)))) := hblk
  clear hblk
  go_wp2
  go_ret3
  exact ⟨b, hb, rfl, HBLK.out, hb1⟩
end
end Go.Proofs.YtokmllopbfmadaaDoor.Ref
